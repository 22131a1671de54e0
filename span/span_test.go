package span

import (
	"fmt"
	"math"
	"slices"
	"testing"

	"quickset/api"
)

// Short names for the least and the greatest number there is.
const (
	least = math.MinInt64
	most  = math.MaxInt64
)

// seed: numbers that look like chance, the same ones in each run.
type seed uint64

// below: the next number, from 0 on below n.
func (s *seed) below(n int) int {
	*s = *s*6364136223846793005 + 1442695040888963407
	return int(uint64(*s)>>33) % n
}

// r: the range of the numbers from one on, ahead of another.
func r(from, to int) api.Range {
	return api.Range{From: from, To: to}
}

// comb: that many ranges of one number, with gaps of one number between them; the first one at 1.
func comb(count int) []api.Range {
	var l []api.Range
	for i := range count {
		l = append(l, r(2*i+1, 2*i+2))
	}
	return l
}

// wide: that many ranges of three numbers, with gaps of three between them; the first one at 3.
func wide(count int) []api.Range {
	var l []api.Range
	for i := range count {
		l = append(l, r(6*i+3, 6*i+6))
	}
	return l
}

// slowMay: by the words of P6.1.
func slowMay(l []api.Range) bool {
	for i, one := range l {
		if one.From < 0 || one.From >= one.To || one.To > api.MaxCount {
			return false
		}
		if i+1 < len(l) && one.To >= l[i+1].From {
			return false
		}
	}
	return len(l) <= api.MaxRanges
}

// numbers: which of the numbers from 0 on below n are in the set.
func numbers(l []api.Range, n int) []bool {
	in := make([]bool, n)
	for _, one := range l {
		for a := one.From; a < one.To; a++ {
			in[a] = true
		}
	}
	return in
}

// ranges: of the numbers that are in, number by number.
func ranges(in []bool) []api.Range {
	var l []api.Range
	for a, is := range in {
		if !is {
			continue
		}
		if a > 0 && in[a-1] {
			l[len(l)-1].To = a + 1
		} else {
			l = append(l, r(a, a+1))
		}
	}
	return l
}

// slow: of two sets of numbers below n, number by number.
func slow(a, b []api.Range, n int, keep func(a, b bool) bool) []api.Range {
	inA, inB := numbers(a, n), numbers(b, n)
	for i := range inA {
		inA[i] = keep(inA[i], inB[i])
	}
	return ranges(inA)
}

func or(a, b bool) bool  { return a || b }
func not(a, b bool) bool { return a && !b }
func and(a, b bool) bool { return a && b }

// everySet: the ranges of every set of numbers below n.
func everySet(n int) [][]api.Range {
	var l [][]api.Range
	for bits := range 1 << n {
		in := make([]bool, n)
		for a := range in {
			in[a] = bits>>a&1 == 1
		}
		l = append(l, ranges(in))
	}
	return l
}

// noSets: ranges that may not be.
func noSets() map[string][]api.Range {
	return map[string][]api.Range{
		"From below 0":              {r(-1, 3)},
		"From far below 0":          {r(least, 3)},
		"both below 0":              {r(-5, -3)},
		"ends at 0":                 {r(-1, 0)},
		"From at To":                {r(3, 3)},
		"From at To, 0":             {r(0, 0)},
		"From above To":             {r(4, 3)},
		"both MaxCount":             {r(api.MaxCount, api.MaxCount)},
		"To above MaxCount":         {r(0, api.MaxCount+1)},
		"all above MaxCount":        {r(api.MaxCount, api.MaxCount+1)},
		"To far above":              {r(0, most)},
		"From above To, far":        {r(most, least)},
		"least and greatest":        {r(least, most)},
		"greatest twice":            {r(most, most)},
		"least twice":               {r(least, least)},
		"just below the greatest":   {r(most-1, most)},
		"just above the least":      {r(least, least+1)},
		"beyond 32 bits":            {r(1<<32+1, 1<<32+2)},
		"To beyond 32 bits":         {r(1, 1<<32+2)},
		"touch":                     {r(2, 5), r(5, 9)},
		"touch at the last":         {r(0, 1), r(2, 5), r(7, 8), r(8, 9)},
		"overlap":                   {r(2, 5), r(4, 9)},
		"within":                    {r(2, 9), r(4, 5)},
		"the same twice":            {r(2, 5), r(2, 5)},
		"out of order":              {r(8, 9), r(2, 5)},
		"out of order at the last":  {r(2, 3), r(5, 6), r(8, 9), r(0, 1)},
		"To the greatest, one more": {r(0, most), r(1, 2)},
		"From at To behind others":  {r(0, 1), r(3, 3)},
		"From at To ahead":          {r(0, 0), r(2, 3)},
		"To above, behind others":   {r(0, 1), r(3, api.MaxCount+1)},
		"one too many":              comb(api.MaxRanges + 1),
		"many too many":             comb(5000),
		"zeros":                     make([]api.Range, 3),
		"too many zeros":            make([]api.Range, 1000),
	}
}

// want: is what a call answered as it should be?
func want(t *testing.T, what string, got []api.Range, code api.Errno, l []api.Range, errno api.Errno) {
	t.Helper()
	if !slices.Equal(got, l) || code != errno {
		t.Errorf("%s: %v %d, want %v %d", what, got, code, l, errno)
	}
	if !slowMay(got) {
		t.Errorf("%s: %v may not be", what, got)
	}
}

// wantNumber: the same, of a number.
func wantNumber(t *testing.T, what string, got int, code api.Errno, number int, errno api.Errno) {
	t.Helper()
	if got != number || code != errno {
		t.Errorf("%s: %d %d, want %d %d", what, got, code, number, errno)
	}
}

// P6.1

func TestMayOfSets(t *testing.T) {
	known := map[string][]api.Range{
		"nil":                    nil,
		"none":                   {},
		"one number":             {r(0, 1)},
		"the last number":        {r(api.MaxCount-1, api.MaxCount)},
		"all numbers":            {r(0, api.MaxCount)},
		"a gap of one":           {r(2, 5), r(6, 9)},
		"a gap of one at 0":      {r(0, 1), r(2, 3)},
		"a gap of all but two":   {r(0, 1), r(api.MaxCount-1, api.MaxCount)},
		"three":                  {r(2, 5), r(8, 9), r(100, api.MaxCount)},
		"just below MaxRanges":   comb(api.MaxRanges - 1),
		"MaxRanges":              comb(api.MaxRanges),
		"MaxRanges, to the last": append(comb(api.MaxRanges - 1)[:api.MaxRanges-1:api.MaxRanges-1], r(5000, api.MaxCount)),
	}
	for what, l := range known {
		if !May(l) {
			t.Errorf("May of %s: false", what)
		}
	}
}

func TestMayOfNoSets(t *testing.T) {
	for what, l := range noSets() {
		if May(l) {
			t.Errorf("May of %s: true", what)
		}
	}
}

// All lists of up to three ranges with ends from -1 to 4.
func TestMayOfEachShortList(t *testing.T) {
	var grow func(list []api.Range)
	grow = func(list []api.Range) {
		if got := May(list); got != slowMay(list) {
			t.Errorf("May %v: %v", list, got)
		}
		if len(list) == 3 {
			return
		}
		for from := -1; from <= 4; from++ {
			for to := -1; to <= 4; to++ {
				grow(append(slices.Clone(list), r(from, to)))
			}
		}
	}
	grow(nil)
}

// One end of one range of many is another: at each place.
func TestMayWithOneEndAnother(t *testing.T) {
	for place := range api.MaxRanges {
		for _, end := range []int{least, -1, 0, 3, 6*place + 2, 6*place + 3, 6*place + 5, 6*place + 6, 6*place + 8, 6*place + 9, 6*place + 10, api.MaxCount, api.MaxCount + 1, most} {
			for _, from := range []bool{true, false} {
				l := wide(api.MaxRanges)
				if from {
					l[place].From = end
				} else {
					l[place].To = end
				}
				if got := May(l); got != slowMay(l) {
					t.Errorf("May with %v at %d of many: %v", l[place], place, got)
				}
			}
		}
	}
}

func TestHasAtBothEnds(t *testing.T) {
	lists := [][]api.Range{nil, {}, {r(0, 1)}, {r(2, 5), r(8, 9)}, {r(0, 3), r(4, 5), r(7, api.MaxCount)}, {r(0, api.MaxCount)}, {r(api.MaxCount-1, api.MaxCount)}, wide(api.MaxRanges), comb(api.MaxRanges)}
	for _, l := range lists {
		asked := []int{least, least + 1, -1 << 32, -2, -1, 0, 1, 2, 3, api.MaxCount - 2, api.MaxCount - 1, api.MaxCount, api.MaxCount + 1, 1 << 32, 1<<32 + 1, 1<<32 + 8, most - 1, most}
		for _, one := range l {
			asked = append(asked, one.From-1, one.From, one.From+1, one.To-2, one.To-1, one.To, one.To+1)
		}
		in := numbers(l, api.MaxCount)
		for _, n := range asked {
			should := n >= 0 && n < api.MaxCount && in[n]
			if got := Has(l, n); got != should {
				t.Errorf("Has %v %d: %v", l, n, got)
			}
		}
	}
}

func TestHasAndSizeOfEachSet(t *testing.T) {
	for _, l := range everySet(10) {
		size := 0
		for n, in := range numbers(l, 10) {
			if got := Has(l, n); got != in {
				t.Errorf("Has %v %d: %v", l, n, got)
			}
			if in {
				size++
			}
		}
		if Has(l, -1) || Has(l, 10) {
			t.Errorf("Has %v: -1 or 10 is in it", l)
		}
		if got := Size(l); got != size {
			t.Errorf("Size %v: %d, want %d", l, got, size)
		}
	}
}

func TestSizeOfKnown(t *testing.T) {
	known := []struct {
		l    []api.Range
		size int
	}{
		{nil, 0}, {[]api.Range{}, 0}, {[]api.Range{r(2, 5), r(8, 9)}, 4}, {[]api.Range{r(0, api.MaxCount)}, api.MaxCount}, {[]api.Range{r(0, 1), r(2, api.MaxCount)}, api.MaxCount - 1}, {comb(api.MaxRanges), api.MaxRanges}, {wide(api.MaxRanges), 3 * api.MaxRanges},
	}
	for _, c := range known {
		if got := Size(c.l); got != c.size {
			t.Errorf("Size %v: %d, want %d", c.l, got, c.size)
		}
	}
}

func TestHasAndSizeOfNoSets(t *testing.T) {
	for what, l := range noSets() {
		asked := []int{least, -1, 0, 1, 2, 3, 4, 5, 8, api.MaxCount, most}
		for _, one := range l[:min(len(l), 10)] {
			asked = append(asked, one.From, one.To, one.To-1)
		}
		for _, n := range asked {
			if Has(l, n) {
				t.Errorf("Has of %s: %d", what, n)
			}
		}
		if got := Size(l); got != 0 {
			t.Errorf("Size of %s: %d", what, got)
		}
	}
}

// Ahead of ErrFull, ErrRange and ErrNone, too.
func TestFormOfAllOthers(t *testing.T) {
	sets := [][]api.Range{nil, {}, {r(2, 5), r(8, 9)}, {r(0, api.MaxCount)}, comb(api.MaxRanges)}
	for what, no := range noSets() {
		for _, l := range sets {
			got, code := Both(no, l)
			want(t, "Both of "+what+" and a set", got, code, nil, api.ErrForm)
			got, code = Both(l, no)
			want(t, "Both of a set and "+what, got, code, nil, api.ErrForm)
		}
		got, code := Both(no, no)
		want(t, "Both of "+what+" twice", got, code, nil, api.ErrForm)
		for _, one := range []api.Range{r(0, 1), r(2, 5), r(0, api.MaxCount), r(4, 4), r(-1, 9), r(least, most)} {
			got, code = Add(no, one)
			want(t, fmt.Sprint("Add to ", what, one), got, code, nil, api.ErrForm)
			got, code = Cut(no, one)
			want(t, fmt.Sprint("Cut out of ", what, one), got, code, nil, api.ErrForm)
		}
		for _, n := range []int{least, -1, 0, 1, 2, api.MaxCount, most} {
			number, code := First(no, n)
			wantNumber(t, fmt.Sprint("First of ", what, n), number, code, 0, api.ErrForm)
		}
	}
}

func TestFormOfRangeAlone(t *testing.T) {
	for what, no := range noSets() {
		if len(no) != 1 {
			continue
		}
		for _, l := range [][]api.Range{nil, {}, {r(2, 5), r(8, 9)}, {r(0, api.MaxCount)}, comb(api.MaxRanges), wide(api.MaxRanges)} {
			got, code := Add(l, no[0])
			want(t, "Add of "+what, got, code, nil, api.ErrForm)
			got, code = Cut(l, no[0])
			want(t, "Cut of "+what, got, code, nil, api.ErrForm)
		}
	}
}

// P6.2

func TestAddOfKnown(t *testing.T) {
	l := []api.Range{r(2, 5), r(8, 9), r(12, 20)}
	known := []struct {
		r   api.Range
		set []api.Range
	}{
		{r(3, 4), l}, {r(2, 5), l}, {r(2, 3), l}, {r(4, 5), l}, {r(8, 9), l},
		{r(6, 7), []api.Range{r(2, 5), r(6, 7), r(8, 9), r(12, 20)}},
		{r(5, 6), []api.Range{r(2, 6), r(8, 9), r(12, 20)}},
		{r(7, 8), []api.Range{r(2, 5), r(7, 9), r(12, 20)}},
		{r(5, 8), []api.Range{r(2, 9), r(12, 20)}},
		{r(4, 9), []api.Range{r(2, 9), r(12, 20)}},
		{r(3, 14), []api.Range{r(2, 20)}},
		{r(5, 12), []api.Range{r(2, 20)}},
		{r(6, 11), []api.Range{r(2, 5), r(6, 11), r(12, 20)}},
		{r(0, 1), []api.Range{r(0, 1), r(2, 5), r(8, 9), r(12, 20)}},
		{r(0, 2), []api.Range{r(0, 5), r(8, 9), r(12, 20)}},
		{r(20, 22), []api.Range{r(2, 5), r(8, 9), r(12, 22)}},
		{r(21, 22), []api.Range{r(2, 5), r(8, 9), r(12, 20), r(21, 22)}},
		{r(21, api.MaxCount), []api.Range{r(2, 5), r(8, 9), r(12, 20), r(21, api.MaxCount)}},
		{r(0, api.MaxCount), []api.Range{r(0, api.MaxCount)}},
	}
	for _, c := range known {
		got, code := Add(l, c.r)
		want(t, fmt.Sprint("Add ", c.r), got, code, c.set, api.OK)
		got, code = Add(nil, c.r)
		want(t, fmt.Sprint("Add to none ", c.r), got, code, []api.Range{c.r}, api.OK)
	}
}

func TestCutOfKnown(t *testing.T) {
	l := []api.Range{r(2, 5), r(8, 9), r(12, 20)}
	known := []struct {
		r   api.Range
		set []api.Range
	}{
		{r(0, 2), l}, {r(5, 8), l}, {r(6, 7), l}, {r(9, 12), l}, {r(20, 21), l}, {r(20, api.MaxCount), l}, {r(0, 1), l},
		{r(3, 4), []api.Range{r(2, 3), r(4, 5), r(8, 9), r(12, 20)}},
		{r(2, 3), []api.Range{r(3, 5), r(8, 9), r(12, 20)}},
		{r(4, 5), []api.Range{r(2, 4), r(8, 9), r(12, 20)}},
		{r(2, 5), []api.Range{r(8, 9), r(12, 20)}},
		{r(8, 9), []api.Range{r(2, 5), r(12, 20)}},
		{r(4, 13), []api.Range{r(2, 4), r(13, 20)}},
		{r(5, 12), []api.Range{r(2, 5), r(12, 20)}},
		{r(0, 19), []api.Range{r(19, 20)}},
		{r(3, api.MaxCount), []api.Range{r(2, 3)}},
		{r(2, 20), nil}, {r(0, 99), nil}, {r(0, api.MaxCount), nil},
	}
	for _, c := range known {
		got, code := Cut(l, c.r)
		want(t, fmt.Sprint("Cut ", c.r), got, code, c.set, api.OK)
		got, code = Cut(nil, c.r)
		want(t, fmt.Sprint("Cut out of none ", c.r), got, code, nil, api.OK)
	}
	all := []api.Range{r(0, api.MaxCount)}
	got, code := Cut(all, r(0, 1))
	want(t, "Cut the first number", got, code, []api.Range{r(1, api.MaxCount)}, api.OK)
	got, code = Cut(all, r(api.MaxCount-1, api.MaxCount))
	want(t, "Cut the last number", got, code, []api.Range{r(0, api.MaxCount-1)}, api.OK)
	got, code = Cut(all, r(0, api.MaxCount-1))
	want(t, "Cut all but the last number", got, code, []api.Range{r(api.MaxCount-1, api.MaxCount)}, api.OK)
	got, code = Cut(all, r(1, api.MaxCount))
	want(t, "Cut all but the first number", got, code, []api.Range{r(0, 1)}, api.OK)
	got, code = Cut(all, r(7, 9))
	want(t, "Cut out of the midst", got, code, []api.Range{r(0, 7), r(9, api.MaxCount)}, api.OK)
}

func TestBothOfKnown(t *testing.T) {
	l := []api.Range{r(2, 5), r(8, 9), r(12, 20)}
	known := []struct{ other, set []api.Range }{
		{nil, nil}, {[]api.Range{}, nil}, {l, l}, {[]api.Range{r(0, api.MaxCount)}, l}, {[]api.Range{r(2, 20)}, l},
		{[]api.Range{r(0, 2), r(5, 8), r(9, 12), r(20, 30)}, nil},
		{[]api.Range{r(0, 3), r(4, 30)}, []api.Range{r(2, 3), r(4, 5), r(8, 9), r(12, 20)}},
		{[]api.Range{r(4, 13)}, []api.Range{r(4, 5), r(8, 9), r(12, 13)}},
		{[]api.Range{r(13, 14), r(15, 16), r(17, 30)}, []api.Range{r(13, 14), r(15, 16), r(17, 20)}},
		{[]api.Range{r(19, api.MaxCount)}, []api.Range{r(19, 20)}},
	}
	for _, c := range known {
		got, code := Both(l, c.other)
		want(t, fmt.Sprint("Both with ", c.other), got, code, c.set, api.OK)
		got, code = Both(c.other, l)
		want(t, fmt.Sprint("Both of ", c.other), got, code, c.set, api.OK)
	}
	got, code := Both(nil, nil)
	want(t, "Both of none", got, code, nil, api.OK)
}

// Every set of numbers below 9, with every range, and with every set of numbers below 7.
func TestEachSetNumberByNumber(t *testing.T) {
	const n = 9
	for _, l := range everySet(n) {
		for from := range n {
			for to := from + 1; to <= n; to++ {
				one := r(from, to)
				got, code := Add(l, one)
				want(t, fmt.Sprint("Add ", l, one), got, code, slow(l, []api.Range{one}, n, or), api.OK)
				got, code = Cut(l, one)
				want(t, fmt.Sprint("Cut ", l, one), got, code, slow(l, []api.Range{one}, n, not), api.OK)
			}
		}
		for _, other := range everySet(7) {
			got, code := Both(l, other)
			want(t, fmt.Sprint("Both ", l, other), got, code, slow(l, other, n, and), api.OK)
		}
	}
}

// set: some ranges of numbers below n.
func (s *seed) set(n int) []api.Range {
	in := make([]bool, n)
	for at := s.below(4); at < n; at += 1 + s.below(6) {
		for length := 1 + s.below(9); length > 0 && at < n; length-- {
			in[at] = true
			at++
		}
	}
	return ranges(in)
}

func TestLongSetsNumberByNumber(t *testing.T) {
	const n = 900
	var s seed = 6
	for range 150 {
		a, b := s.set(n), s.set(n)
		from := s.below(n)
		one := r(from, from+1+s.below(n-from))
		got, code := Add(a, one)
		want(t, fmt.Sprint("Add ", a, one), got, code, slow(a, []api.Range{one}, n, or), api.OK)
		got, code = Cut(a, one)
		want(t, fmt.Sprint("Cut ", a, one), got, code, slow(a, []api.Range{one}, n, not), api.OK)
		l, errno := slow(a, b, n, and), api.OK
		if len(l) > api.MaxRanges {
			l, errno = nil, api.ErrFull
		}
		got, code = Both(a, b)
		want(t, fmt.Sprint("Both ", a, b), got, code, l, errno)
	}
}

func TestAddIsFull(t *testing.T) {
	full := wide(api.MaxRanges)
	for _, place := range []int{0, 1, 99, api.MaxRanges - 1} {
		gap := 6 * place
		got, code := Add(full, r(gap+1, gap+2))
		want(t, fmt.Sprint("Add in the gap at ", gap), got, code, nil, api.ErrFull)
		less := slices.Delete(wide(api.MaxRanges), place, place+1)
		got, code = Add(less, full[place])
		want(t, fmt.Sprint("Add the one that is missing at ", place), got, code, full, api.OK)
		got, code = Add(full, r(gap+1, gap+3))
		grown := slices.Clone(full)
		grown[place].From = gap + 1
		want(t, fmt.Sprint("Add what touches the range at ", place), got, code, grown, api.OK)
	}
	behind := full[api.MaxRanges-1].To
	got, code := Add(full, r(behind+1, behind+2))
	want(t, "Add behind all", got, code, nil, api.ErrFull)
	got, code = Add(full, r(api.MaxCount-1, api.MaxCount))
	want(t, "Add at the last number", got, code, nil, api.ErrFull)
	got, code = Add(full, r(0, api.MaxCount))
	want(t, "Add all", got, code, []api.Range{r(0, api.MaxCount)}, api.OK)
	got, code = Add(full, r(4, 5))
	want(t, "Add what is there", got, code, full, api.OK)
}

func TestCutIsFull(t *testing.T) {
	full := wide(api.MaxRanges)
	for _, place := range []int{0, 1, 99, api.MaxRanges - 1} {
		one := full[place]
		got, code := Cut(full, r(one.From+1, one.From+2))
		want(t, fmt.Sprint("Cut out of the midst of the range at ", place), got, code, nil, api.ErrFull)
		got, code = Cut(full, r(one.From, one.From+1))
		cut := slices.Clone(full)
		cut[place].From++
		want(t, fmt.Sprint("Cut the first number of the range at ", place), got, code, cut, api.OK)
		got, code = Cut(full, r(one.From-1, one.To))
		want(t, fmt.Sprint("Cut the range at ", place), got, code, slices.Delete(slices.Clone(full), place, place+1), api.OK)
	}
	got, code := Cut(full, r(0, 1))
	want(t, "Cut what is not there", got, code, full, api.OK)
	less := full[:api.MaxRanges-1]
	got, code = Cut(less, r(4, 5))
	want(t, "Cut so that there are MaxRanges", got, code, append([]api.Range{r(3, 4), r(5, 6)}, less[1:]...), api.OK)
}

func TestBothIsFull(t *testing.T) {
	full := wide(api.MaxRanges)
	all := []api.Range{r(0, api.MaxCount)}
	got, code := Both(full, all)
	want(t, "Both of MaxRanges and all", got, code, full, api.OK)
	split := []api.Range{r(0, 4), r(5, api.MaxCount)}
	got, code = Both(full, split)
	want(t, "Both of MaxRanges and all but one", got, code, nil, api.ErrFull)
	got, code = Both(split, full)
	want(t, "Both of all but one and MaxRanges", got, code, nil, api.ErrFull)
	less := full[:api.MaxRanges-1]
	just := append([]api.Range{r(3, 4), r(5, 6)}, less[1:]...)
	got, code = Both(less, split)
	want(t, "Both, and just MaxRanges", got, code, just, api.OK)
	got, code = Both(split, less)
	want(t, "Both, and just MaxRanges, the other way round", got, code, just, api.OK)
	var shifted []api.Range // each of its ranges has the end of one range of full, and the beginning of the next one
	for i := range api.MaxRanges {
		shifted = append(shifted, r(6*i+5, 6*i+10))
	}
	got, code = Both(full, shifted)
	want(t, "Both of many that lie across", got, code, nil, api.ErrFull)
}

// P6.3

func TestFirstOfKnown(t *testing.T) {
	l := []api.Range{r(2, 5), r(8, 9), r(12, 20), r(30, 38), r(40, 60)}
	known := []struct {
		l     []api.Range
		n     int
		first int
		errno api.Errno
	}{
		{l, 1, 2, api.OK}, {l, 2, 2, api.OK}, {l, 3, 2, api.OK}, {l, 4, 12, api.OK}, {l, 8, 12, api.OK}, {l, 9, 40, api.OK}, {l, 20, 40, api.OK},
		{l, 21, 0, api.ErrNone}, {l, 29, 0, api.ErrNone}, {l, 40, 0, api.ErrNone}, {l, api.MaxCount, 0, api.ErrNone}, {l, 1<<32 + 1, 0, api.ErrNone}, {l, most, 0, api.ErrNone},
		{l, 0, 0, api.ErrRange}, {l, -1, 0, api.ErrRange}, {l, least, 0, api.ErrRange}, {l, -1<<32 + 1, 0, api.ErrRange},
		{nil, 1, 0, api.ErrNone}, {[]api.Range{}, 1, 0, api.ErrNone}, {nil, most, 0, api.ErrNone},
		{nil, 0, 0, api.ErrRange}, {nil, -1, 0, api.ErrRange}, {[]api.Range{}, least, 0, api.ErrRange},
		{[]api.Range{r(0, api.MaxCount)}, 1, 0, api.OK}, {[]api.Range{r(0, api.MaxCount)}, api.MaxCount, 0, api.OK}, {[]api.Range{r(0, api.MaxCount)}, api.MaxCount + 1, 0, api.ErrNone},
		{[]api.Range{r(0, 1), r(api.MaxCount-1, api.MaxCount)}, 1, 0, api.OK}, {[]api.Range{r(0, 1), r(api.MaxCount-1, api.MaxCount)}, 2, 0, api.ErrNone},
		{[]api.Range{r(0, 1), r(api.MaxCount-2, api.MaxCount)}, 2, api.MaxCount - 2, api.OK},
		{comb(api.MaxRanges), 1, 1, api.OK}, {comb(api.MaxRanges), 2, 0, api.ErrNone},
		{append(comb(api.MaxRanges-1), r(1000, 1002)), 2, 1000, api.OK},
	}
	for _, c := range known {
		got, code := First(c.l, c.n)
		wantNumber(t, fmt.Sprint("First ", c.l, c.n), got, code, c.first, c.errno)
	}
}

// slowFirst: number by number.
func slowFirst(in []bool, n int) (int, api.Errno) {
	for first := range in {
		if first+n <= len(in) && !slices.Contains(in[first:first+n], false) {
			return first, api.OK
		}
	}
	return 0, api.ErrNone
}

func TestFirstOfEachSet(t *testing.T) {
	for _, l := range everySet(10) {
		for n := 1; n <= 11; n++ {
			first, errno := slowFirst(numbers(l, 10), n)
			got, code := First(l, n)
			wantNumber(t, fmt.Sprint("First ", l, n), got, code, first, errno)
		}
	}
}

// What holds everywhere.

// calls: every call of lists, on two lists.
func calls(a, b []api.Range) map[string][]api.Range {
	May(a)
	Has(a, 3)
	Size(a)
	First(a, 2)
	answers := map[string][]api.Range{}
	answers["Add"], _ = Add(a, r(3, 7))
	answers["Add of what is there"], _ = Add(a, r(3, 4))
	answers["Cut"], _ = Cut(a, r(3, 4))
	answers["Cut of what is not there"], _ = Cut(a, r(0, 1))
	answers["Both"], _ = Both(a, b)
	answers["Both, the other way round"], _ = Both(b, a)
	answers["Both of one"], _ = Both(a, a)
	return answers
}

// spare: the same list, with spare room behind it that is marked.
func spare(l []api.Range) []api.Range {
	l = append(slices.Clone(l), r(-7, -7), r(5, 3), r(-7, -7))
	return l[:len(l)-3]
}

func TestWhatIsHandedInIsAsItWas(t *testing.T) {
	lists := [][]api.Range{{}, {r(2, 5), r(8, 9)}, {r(1, 2), r(4, 5), r(8, 20)}, {r(0, api.MaxCount)}, {r(8, 9), r(2, 5)}, {r(2, 5), r(5, 9)}, wide(api.MaxRanges), comb(api.MaxRanges + 1)}
	for _, a := range lists {
		for _, b := range lists {
			one, other := spare(a), spare(b)
			calls(one, other)
			for _, l := range [][2][]api.Range{{one, a}, {other, b}} {
				was := spare(l[1])
				if size := len(was) + 3; !slices.Equal(l[0][:size], was[:size]) {
					t.Errorf("%v: now %v", was[:size], l[0][:size])
				}
			}
		}
	}
}

func TestAnswersShareNothing(t *testing.T) {
	lists := [][]api.Range{{r(2, 5)}, {r(2, 5), r(8, 9)}, {r(0, api.MaxCount)}, wide(api.MaxRanges - 2)}
	for _, a := range lists {
		for _, b := range lists {
			one, other := spare(a), spare(b)
			should := calls(a, b)
			got := calls(one, other)
			for _, l := range [][]api.Range{one, other} { // what was handed in is written over, and no answer is another
				l = l[:cap(l)]
				for i := range l {
					l[i] = r(-9, -9)
				}
			}
			for what, l := range got {
				if !slices.Equal(l, should[what]) {
					t.Errorf("%s of %v and %v: shares memory with what was handed in", what, a, b)
				}
			}
			mark := 100
			marks := map[string]int{}
			for what, l := range got {
				mark++
				marks[what] = mark
				for i := range l[:cap(l)] {
					l[:cap(l)][i] = r(mark, mark)
				}
			}
			for what, l := range got {
				if slices.ContainsFunc(l[:cap(l)], func(one api.Range) bool { return one.From != marks[what] }) {
					t.Errorf("%s of %v and %v: shares memory with another answer", what, a, b)
				}
			}
		}
	}
}

func TestSpareRoomIsNotRead(t *testing.T) {
	l := spare([]api.Range{r(2, 5), r(8, 9)})
	if !May(l) || Size(l) != 4 {
		t.Errorf("%v with spare room: May %v, Size %d", l, May(l), Size(l))
	}
	got, code := Add(l, r(6, 7))
	want(t, "Add with spare room", got, code, []api.Range{r(2, 5), r(6, 7), r(8, 9)}, api.OK)
}

// A set has one list of ranges: what is added and cut again, in whatever order, is the same list.
func TestOneListOfASet(t *testing.T) {
	var s seed = 66
	for range 200 {
		l := s.set(200)
		var grown []api.Range
		for _, i := range []int{1, 0} {
			for place := i; place < len(l); place += 2 {
				mid := (l[place].From + l[place].To + 1) / 2
				if mid < l[place].To {
					grown, _ = Add(grown, r(mid, l[place].To))
				}
				grown, _ = Add(grown, r(l[place].From, mid))
			}
		}
		want(t, "piece by piece", grown, api.OK, l, api.OK)
	}
}
