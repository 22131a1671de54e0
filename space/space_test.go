package space

import (
	"fmt"
	"math"
	"slices"
	"testing"

	"quickset/api"
)

// Short names for the least and the greatest number there is.
const (
	least = math.MinInt64
	most  = math.MaxInt64
)

// seed: numbers that look like chance, the same ones in each run.
type seed uint64

// below: the next number, from 0 on below n.
func (s *seed) below(n int) int {
	*s = *s*6364136223846793005 + 1442695040888963407
	return int(uint64(*s)>>33) % n
}

// Short names for deeds, for what they come to, and for records.
func take(count int) api.Deed       { return api.Deed{Kind: api.Take, Count: count} }
func give(from, count int) api.Deed { return api.Deed{Kind: api.Give, From: from, Count: count} }
func commit() api.Deed              { return api.Deed{Kind: api.Commit} }
func ok(from, left int) api.Found   { return api.Found{From: from, Left: left} }
func no(code api.Errno, left int) api.Found {
	return api.Found{Code: code, Left: left}
}
func r(from, to int) api.Range { return api.Range{From: from, To: to} }
func takes(from, to int) api.Record {
	return api.Record{Range: r(from, to)}
}
func frees(from, to int) api.Record {
	return api.Record{Free: true, Range: r(from, to)}
}

// sizes out of bounds.
func noSizes() []int {
	return []int{least, least + 1, -1 << 32, -api.MaxSpace, -1, 0, api.MaxSpace + 1, api.MaxSpace + 2, 2 * api.MaxSpace, 1<<32 + 1, most - 1, most}
}

// wantPlay: does a play come to this?
func wantPlay(t *testing.T, what string, size int, l []api.Deed, found []api.Found, log []api.Record, errno api.Errno) {
	t.Helper()
	f, g, code := Play(size, l)
	if !slices.Equal(f, found) || !slices.Equal(g, log) || code != errno {
		t.Errorf("Play %s:\n%v %v %d, want\n%v %v %d", what, f, g, code, found, log, errno)
	}
}

// wantReplay: are these units free behind records?
func wantReplay(t *testing.T, what string, size int, l []api.Record, free []api.Range, errno api.Errno) {
	t.Helper()
	got, code := Replay(size, l)
	if !slices.Equal(got, free) || code != errno {
		t.Errorf("Replay %s: %v %d, want %v %d", what, got, code, free, errno)
	}
}

// wantCondense: are records condensed to these?
func wantCondense(t *testing.T, what string, size int, l, few []api.Record, errno api.Errno) {
	t.Helper()
	got, code := Condense(size, l)
	if !slices.Equal(got, few) || code != errno {
		t.Errorf("Condense %s: %v %d, want %v %d", what, got, code, few, errno)
	}
}

// plain: a space by the words of P7.1, unit by unit. taken: somebody has it. since: at how many Commits it rested already, where it rests; else -1.
type plain struct {
	taken []bool
	since []int
}

func newPlain(size int) *plain {
	p := &plain{taken: make([]bool, size), since: make([]int, size)}
	for i := range p.since {
		p.since[i] = -1
	}
	return p
}

// isFree: neither taken nor resting.
func (p *plain) isFree(unit int) bool {
	return !p.taken[unit] && p.since[unit] < 0
}

func (p *plain) left() int {
	n := 0
	for i := range p.taken {
		if p.isFree(i) {
			n++
		}
	}
	return n
}

// runs: of the units that are in, unit by unit.
func runs(size int, in func(unit int) bool) []api.Range {
	var l []api.Range
	for i := 0; i < size; i++ {
		if !in(i) {
			continue
		}
		from := i
		for i < size && in(i) {
			i++
		}
		l = append(l, r(from, i))
	}
	return l
}

// every: is it so of count units from one on?
func every(from, count int, so func(unit int) bool) bool {
	for i := from; i < from+count; i++ {
		if !so(i) {
			return false
		}
	}
	return true
}

func (p *plain) take(count int) (api.Found, []api.Record) {
	size := len(p.taken)
	if count < 1 || count > size {
		return api.Found{Code: api.ErrRange}, nil
	}
	for from := 0; from+count <= size; from++ {
		if every(from, count, p.isFree) {
			for i := range count {
				p.taken[from+i] = true
			}
			return api.Found{From: from}, []api.Record{takes(from, from+count)}
		}
	}
	return api.Found{Code: api.ErrFull}, nil
}

func (p *plain) give(from, count int) api.Found {
	size := len(p.taken)
	if from < 0 || count < 1 || from >= size || count > size || from+count > size {
		return api.Found{Code: api.ErrRange}
	}
	if !every(from, count, func(unit int) bool { return p.taken[unit] }) {
		return api.Found{Code: api.ErrNone}
	}
	for i := range count {
		p.taken[from+i], p.since[from+i] = false, 0
	}
	return api.Found{}
}

func (p *plain) commit() []api.Record {
	var log []api.Record
	for _, one := range runs(len(p.taken), func(unit int) bool { return p.since[unit] == 1 }) {
		log = append(log, frees(one.From, one.To))
	}
	for i := range p.since {
		switch p.since[i] {
		case 0:
			p.since[i] = 1
		case 1:
			p.since[i] = -1
		}
	}
	return log
}

// slowPlay: what deeds come to in a plain list of units.
func slowPlay(size int, l []api.Deed) ([]api.Found, []api.Record, *plain) {
	p := newPlain(size)
	var found []api.Found
	var log []api.Record
	for _, d := range l {
		f, g := api.Found{Code: api.ErrKind}, []api.Record(nil)
		switch d.Kind {
		case api.Take:
			f, g = p.take(d.Count)
		case api.Give:
			f = p.give(d.From, d.Count)
		case api.Commit:
			f, g = api.Found{}, p.commit()
		}
		f.Left = p.left()
		found, log = append(found, f), append(log, g...)
	}
	return found, log, p
}

// slowBehind: which units are taken behind records, by the words of P7.2.
func slowBehind(size int, l []api.Record) ([]bool, api.Errno) {
	in := make([]bool, size)
	for _, one := range l {
		if one.Range.From < 0 || one.Range.From >= one.Range.To || one.Range.To > size {
			return nil, api.ErrForm
		}
		for i := one.Range.From; i < one.Range.To; i++ {
			if in[i] != one.Free {
				return nil, api.ErrForm
			}
			in[i] = !one.Free
		}
	}
	return in, api.OK
}

// wantBehind: do Replay and Condense tell what a plain list of units tells?
func wantBehind(t *testing.T, size int, l []api.Record) {
	t.Helper()
	what := fmt.Sprint(size, l)
	in, code := slowBehind(size, l)
	if code != api.OK {
		wantReplay(t, what, size, l, nil, code)
		wantCondense(t, what, size, l, nil, code)
		return
	}
	var few []api.Record
	for _, one := range runs(size, func(unit int) bool { return in[unit] }) {
		few = append(few, takes(one.From, one.To))
	}
	wantCondense(t, what, size, l, few, api.OK)
	free := runs(size, func(unit int) bool { return !in[unit] })
	if len(free) > api.MaxRanges {
		wantReplay(t, what, size, l, nil, api.ErrFull)
		wantReplay(t, what+" condensed", size, few, nil, api.ErrFull)
		return
	}
	wantReplay(t, what, size, l, free, api.OK)
	wantReplay(t, what+" condensed", size, few, free, api.OK)
}

// teeth: records that take each other unit, that many of them, from one on.
func teeth(from, count int) []api.Record {
	var l []api.Record
	for i := range count {
		l = append(l, takes(from+2*i, from+2*i+1))
	}
	return l
}

// turns: records that take and free one unit by turns.
func turns(count int) []api.Record {
	var l []api.Record
	for i := range count {
		l = append(l, api.Record{Free: i%2 == 1, Range: r(0, 1)})
	}
	return l
}

// P7.1

func TestPlaySizes(t *testing.T) {
	for _, size := range noSizes() {
		for _, l := range [][]api.Deed{nil, {}, {take(1)}, {{}}, make([]api.Deed, api.MaxDeeds), make([]api.Deed, api.MaxDeeds+1)} {
			wantPlay(t, fmt.Sprint(size, len(l)), size, l, nil, nil, api.ErrRange)
		}
	}
	for _, size := range []int{1, 2, api.MaxSpace - 1, api.MaxSpace} {
		wantPlay(t, fmt.Sprint(size), size, nil, nil, nil, api.OK)
		wantPlay(t, fmt.Sprint(size), size, []api.Deed{}, nil, nil, api.OK)
		wantPlay(t, fmt.Sprint(size), size, []api.Deed{commit(), take(size), take(1)}, []api.Found{ok(0, size), ok(0, 0), no(api.ErrFull, 0)}, []api.Record{takes(0, size)}, api.OK)
	}
}

func TestPlayDeeds(t *testing.T) {
	for _, count := range []int{api.MaxDeeds - 1, api.MaxDeeds} {
		var l []api.Deed
		var found []api.Found
		var log []api.Record
		for i := range count {
			l = append(l, take(1))
			found = append(found, ok(i, api.MaxSpace-1-i))
			log = append(log, takes(i, i+1))
		}
		wantPlay(t, fmt.Sprint(count, " deeds"), api.MaxSpace, l, found, log, api.OK)
	}
	for _, count := range []int{api.MaxDeeds + 1, api.MaxDeeds + 2, 5000} {
		for _, size := range []int{1, 10, api.MaxSpace} {
			wantPlay(t, fmt.Sprint(count, " deeds"), size, make([]api.Deed, count), nil, nil, api.ErrSize)
			wantPlay(t, fmt.Sprint(count, " deeds"), size, slices.Repeat([]api.Deed{take(1)}, count), nil, nil, api.ErrSize)
		}
	}
}

func TestKind(t *testing.T) {
	for _, kind := range []int{least, -1 << 32, -1, 0, 4, 5, 100, 1<<32 + 1, 1<<32 + 3, most} {
		for _, d := range []api.Deed{{Kind: kind}, {Kind: kind, From: 1, Count: 2}, {Kind: kind, From: -1, Count: -1}, {Kind: kind, From: most, Count: most}} {
			l := []api.Deed{d, take(4), d, give(1, 2), d, commit(), d, commit(), d}
			found := []api.Found{no(api.ErrKind, 10), ok(0, 6), no(api.ErrKind, 6), ok(0, 6), no(api.ErrKind, 6), ok(0, 6), no(api.ErrKind, 6), ok(0, 8), no(api.ErrKind, 8)}
			wantPlay(t, fmt.Sprint(d), 10, l, found, []api.Record{takes(0, 4), frees(1, 3)}, api.OK)
		}
	}
}

// What a deed does not ask for says nothing.
func TestFieldsNotAskedFor(t *testing.T) {
	for _, n := range []int{least, -1, 0, 1, 7, most} {
		l := []api.Deed{{Kind: api.Take, From: n, Count: 3}, {Kind: api.Take, From: n, Count: 3}, give(3, 2), {Kind: api.Commit, From: n, Count: n}, {Kind: api.Commit, From: n, Count: n}}
		found := []api.Found{ok(0, 7), ok(3, 4), ok(0, 4), ok(0, 4), ok(0, 6)}
		wantPlay(t, fmt.Sprint("with ", n), 10, l, found, []api.Record{takes(0, 3), takes(3, 6), frees(3, 5)}, api.OK)
	}
}

func TestTakeCounts(t *testing.T) {
	for _, size := range []int{1, 2, 10, api.MaxSpace} {
		for _, count := range []int{least, -1 << 32, -size, -1, 0, size + 1, size + 2, 2 * size, 1<<32 + 1, most - 1, most} {
			if count >= 1 && count <= size {
				continue
			}
			wantPlay(t, fmt.Sprint("takes ", count, " of ", size), size, []api.Deed{take(count), take(size), take(count)}, []api.Found{no(api.ErrRange, size), ok(0, 0), no(api.ErrRange, 0)}, []api.Record{takes(0, size)}, api.OK)
		}
		for _, count := range []int{1, 2, size - 1, size} {
			if count < 1 || count > size {
				continue
			}
			wantPlay(t, fmt.Sprint("takes ", count, " of ", size), size, []api.Deed{take(count)}, []api.Found{ok(0, size-count)}, []api.Record{takes(0, count)}, api.OK)
		}
	}
}

// Free are 2 and 3, 5 to 7, and 9.
func TestTakeLeastPlace(t *testing.T) {
	begin := []api.Deed{take(10), give(2, 2), give(5, 3), give(9, 1), commit(), commit()}
	found := []api.Found{ok(0, 0), ok(0, 0), ok(0, 0), ok(0, 0), ok(0, 0), ok(0, 6)}
	log := []api.Record{takes(0, 10), frees(2, 4), frees(5, 8), frees(9, 10)}
	known := []struct {
		l     []api.Deed
		found []api.Found
		log   []api.Record
	}{
		{[]api.Deed{take(1), take(1), take(1)}, []api.Found{ok(2, 5), ok(3, 4), ok(5, 3)}, []api.Record{takes(2, 3), takes(3, 4), takes(5, 6)}},
		{[]api.Deed{take(2), take(2), take(2), take(1), take(1), take(1)}, []api.Found{ok(2, 4), ok(5, 2), no(api.ErrFull, 2), ok(7, 1), ok(9, 0), no(api.ErrFull, 0)}, []api.Record{takes(2, 4), takes(5, 7), takes(7, 8), takes(9, 10)}},
		{[]api.Deed{take(3), take(3), take(1), take(2)}, []api.Found{ok(5, 3), no(api.ErrFull, 3), ok(2, 2), no(api.ErrFull, 2)}, []api.Record{takes(5, 8), takes(2, 3)}},
		{[]api.Deed{take(4), take(5), take(6), take(7), take(10), take(11)}, []api.Found{no(api.ErrFull, 6), no(api.ErrFull, 6), no(api.ErrFull, 6), no(api.ErrFull, 6), no(api.ErrFull, 6), no(api.ErrRange, 6)}, nil},
		{[]api.Deed{give(4, 1), commit(), take(4), commit(), take(4), take(2), take(1)}, []api.Found{ok(0, 6), ok(0, 6), no(api.ErrFull, 6), ok(0, 7), ok(2, 3), ok(6, 1), ok(9, 0)}, []api.Record{frees(4, 5), takes(2, 6), takes(6, 8), takes(9, 10)}},
	}
	for i, c := range known {
		wantPlay(t, fmt.Sprint("takes ", i), 10, slices.Concat(begin, c.l), slices.Concat(found, c.found), slices.Concat(log, c.log), api.OK)
	}
}

func TestGiveRange(t *testing.T) {
	for _, size := range []int{1, 10, api.MaxSpace} {
		wrong := []api.Deed{
			give(-1, 1), give(-1, 2), give(least, 1), give(least, most), give(least, least), give(-most, most), give(-1, size), give(-1, size+1),
			give(0, 0), give(0, -1), give(0, least), give(size-1, 0), give(size-1, -1), give(size, -1), give(size, -size), give(most, least), give(most, -most),
			give(0, size+1), give(1, size), give(size-1, 2), give(size, 1), give(size, 0), give(size+1, 1), give(0, most), give(1, most), give(2, most), give(size-1, most), give(size, most),
			give(most, 1), give(most, 2), give(most, most), give(most-1, 1), give(most-1, 2), give(1<<32, 1), give(0, 1<<32+1), give(1<<62, 1<<62), give(most-size+1, size),
		}
		for _, d := range wrong {
			l := []api.Deed{d, take(size), d, commit(), commit(), give(0, size), d, commit(), d, commit()}
			found := []api.Found{no(api.ErrRange, size), ok(0, 0), no(api.ErrRange, 0), ok(0, 0), ok(0, 0), ok(0, 0), no(api.ErrRange, 0), ok(0, 0), no(api.ErrRange, 0), ok(0, size)}
			wantPlay(t, fmt.Sprint(d, " of ", size), size, l, found, []api.Record{takes(0, size), frees(0, size)}, api.OK)
		}
	}
}

func TestGiveAtTheEdges(t *testing.T) {
	l := []api.Deed{take(10), give(0, 1), give(9, 1), give(1, 8), commit(), commit(), take(10)}
	found := []api.Found{ok(0, 0), ok(0, 0), ok(0, 0), ok(0, 0), ok(0, 0), ok(0, 10), ok(0, 0)}
	wantPlay(t, "gives at both ends", 10, l, found, []api.Record{takes(0, 10), frees(0, 10), takes(0, 10)}, api.OK)
}

// Of ten units 0 to 5 are taken; then 2 rests.
func TestGiveNone(t *testing.T) {
	for _, d := range []api.Deed{give(2, 1), give(1, 2), give(2, 2), give(0, 6), give(0, 3), give(5, 2), give(6, 1), give(6, 4), give(0, 10), give(9, 1), give(2, 8)} {
		l := []api.Deed{take(6), give(2, 1), d, commit(), d, commit(), d, take(1), commit(), commit()}
		found := []api.Found{ok(0, 4), ok(0, 4), no(api.ErrNone, 4), ok(0, 4), no(api.ErrNone, 4), ok(0, 5), no(api.ErrNone, 5), ok(2, 4), ok(0, 4), ok(0, 4)}
		wantPlay(t, fmt.Sprint(d), 10, l, found, []api.Record{takes(0, 6), frees(2, 3), takes(2, 3)}, api.OK)
	}
	wantPlay(t, "gives what nobody took", 3, []api.Deed{give(0, 3), give(0, 1), give(2, 1)}, []api.Found{no(api.ErrNone, 3), no(api.ErrNone, 3), no(api.ErrNone, 3)}, nil, api.OK)
}

// Units are free, but some go beyond the space: that is told first.
func TestGiveRangeAheadOfNone(t *testing.T) {
	wantPlay(t, "gives beyond, and free ones", 4, []api.Deed{give(0, 5), give(3, 2), take(2), give(1, 4), give(1, 3)}, []api.Found{no(api.ErrRange, 4), no(api.ErrRange, 4), ok(0, 2), no(api.ErrRange, 2), no(api.ErrNone, 2)}, []api.Record{takes(0, 2)}, api.OK)
}

func TestCommitOfKnown(t *testing.T) {
	known := []struct {
		what  string
		l     []api.Deed
		found []api.Found
		log   []api.Record
	}{
		{"with nothing taken", []api.Deed{commit(), commit(), commit()}, []api.Found{ok(0, 8), ok(0, 8), ok(0, 8)}, nil},
		{"with nothing given", []api.Deed{take(3), commit(), commit(), commit()}, []api.Found{ok(0, 5), ok(0, 5), ok(0, 5), ok(0, 5)}, []api.Record{takes(0, 3)}},
		{"by the second one alone",
			[]api.Deed{take(8), give(2, 3), take(1), commit(), take(1), commit(), take(1), commit(), commit()},
			[]api.Found{ok(0, 0), ok(0, 0), no(api.ErrFull, 0), ok(0, 0), no(api.ErrFull, 0), ok(0, 3), ok(2, 2), ok(0, 2), ok(0, 2)},
			[]api.Record{takes(0, 8), frees(2, 5), takes(2, 3)}},
		{"given between two",
			[]api.Deed{take(8), give(0, 2), commit(), give(2, 2), commit(), give(4, 2), commit(), commit(), commit()},
			[]api.Found{ok(0, 0), ok(0, 0), ok(0, 0), ok(0, 0), ok(0, 2), ok(0, 2), ok(0, 4), ok(0, 6), ok(0, 6)},
			[]api.Record{takes(0, 8), frees(0, 2), frees(2, 4), frees(4, 6)}},
		{"given ahead and between, side by side",
			[]api.Deed{take(8), give(0, 1), give(2, 1), commit(), give(1, 1), give(3, 1), commit(), commit()},
			[]api.Found{ok(0, 0), ok(0, 0), ok(0, 0), ok(0, 0), ok(0, 0), ok(0, 0), ok(0, 2), ok(0, 4)},
			[]api.Record{takes(0, 8), frees(0, 1), frees(2, 3), frees(1, 2), frees(3, 4)}},
		{"touching ones, out of order",
			[]api.Deed{take(8), give(5, 2), give(0, 1), give(3, 2), give(7, 1), commit(), commit()},
			[]api.Found{ok(0, 0), ok(0, 0), ok(0, 0), ok(0, 0), ok(0, 0), ok(0, 0), ok(0, 6)},
			[]api.Record{takes(0, 8), frees(0, 1), frees(3, 8)}},
		{"of two takes at once",
			[]api.Deed{take(4), take(4), give(3, 2), commit(), commit(), take(2)},
			[]api.Found{ok(0, 4), ok(4, 0), ok(0, 0), ok(0, 0), ok(0, 2), ok(3, 0)},
			[]api.Record{takes(0, 4), takes(4, 8), frees(3, 5), takes(3, 5)}},
		{"freed, taken and given again",
			[]api.Deed{take(8), give(0, 8), commit(), commit(), take(8), commit(), give(0, 8), commit(), take(1), commit(), take(1)},
			[]api.Found{ok(0, 0), ok(0, 0), ok(0, 0), ok(0, 8), ok(0, 0), ok(0, 0), ok(0, 0), ok(0, 0), no(api.ErrFull, 0), ok(0, 8), ok(0, 7)},
			[]api.Record{takes(0, 8), frees(0, 8), takes(0, 8), frees(0, 8), takes(0, 1)}},
	}
	for _, c := range known {
		wantPlay(t, c.what, 8, c.l, c.found, c.log, api.OK)
	}
}

// MaxSpace units, each other one of which is freed at once; as many as deeds allow.
func TestCommitOfMany(t *testing.T) {
	l, log := []api.Deed{take(api.MaxSpace)}, []api.Record{takes(0, api.MaxSpace)}
	found := []api.Found{ok(0, 0)}
	for i := range api.MaxDeeds - 3 {
		at := api.MaxSpace - 1 - 2*i
		l, found = append(l, give(at, 1)), append(found, ok(0, 0))
		log = slices.Insert(log, 1, frees(at, at+1))
	}
	l = append(l, commit(), commit())
	found = append(found, ok(0, 0), ok(0, api.MaxDeeds-3))
	wantPlay(t, "of many", api.MaxSpace, l, found, log, api.OK)
}

// Every play of up to five deeds in three units.
func TestEachShortPlay(t *testing.T) {
	deeds := []api.Deed{take(1), take(2), take(3), give(0, 1), give(1, 1), give(0, 2), give(1, 2), give(0, 3), commit()}
	var grow func(l []api.Deed)
	grow = func(l []api.Deed) {
		found, log, _ := slowPlay(3, l)
		wantPlay(t, fmt.Sprint(l), 3, l, found, log, api.OK)
		if len(l) == 5 {
			return
		}
		for _, d := range deeds {
			grow(append(slices.Clone(l), d))
		}
	}
	grow(nil)
}

// someDeed: of any kind, now and then a wrong one.
func someDeed(s *seed, size int) api.Deed {
	wild := []int{least, -1, 0, size, size + 1, most}
	switch s.below(10) {
	case 0, 1, 2:
		return take(1 + s.below(1+size/4))
	case 3, 4, 5, 6:
		from := s.below(size)
		return give(from, 1+s.below(min(4, size-from)))
	case 7, 8:
		return commit()
	}
	return api.Deed{Kind: s.below(5), From: wild[s.below(len(wild))], Count: wild[s.below(len(wild))]}
}

// Deeds of all kinds, against the plain list; the log says what is free, but what rests.
func TestPlayAgainstPlainList(t *testing.T) {
	s := seed(7)
	for round := range 400 {
		size := []int{1, 2, 5, 12, 40, 300, api.MaxSpace}[round%7]
		var l []api.Deed
		for range s.below(api.MaxDeeds + 1) {
			l = append(l, someDeed(&s, size))
		}
		found, log, p := slowPlay(size, l)
		wantPlay(t, fmt.Sprint("round ", round), size, l, found, log, api.OK)
		wantReplay(t, fmt.Sprint("the log of round ", round), size, log, runs(size, p.isFree), api.OK)
		wantBehind(t, size, log)
	}
}

// No unit is taken twice, and none that was given back ahead of the second Commit behind it.
func TestNoUnitTwice(t *testing.T) {
	s := seed(70)
	for range 100 {
		const size = 24
		var l []api.Deed
		for range api.MaxDeeds {
			l = append(l, someDeed(&s, size))
		}
		found, _, code := Play(size, l)
		if code != api.OK || len(found) != len(l) {
			t.Fatalf("Play: %d answers of %d, %d", len(found), len(l), code)
		}
		held, commits := make([]bool, size), 0
		until := make([]int, size) // so many Commits must have been
		for i, d := range l {
			if found[i].Code != api.OK {
				continue
			}
			switch d.Kind {
			case api.Take:
				for unit := found[i].From; unit < found[i].From+d.Count; unit++ {
					if held[unit] || commits < until[unit] {
						t.Fatalf("deed %d of %v takes %d", i, l, unit)
					}
					held[unit] = true
				}
			case api.Give:
				for unit := d.From; unit < d.From+d.Count; unit++ {
					if !held[unit] {
						t.Fatalf("deed %d of %v gives %d", i, l, unit)
					}
					held[unit], until[unit] = false, commits+2
				}
			case api.Commit:
				commits++
			}
		}
	}
}

// P7.2 and P7.3

func TestBehindNoRecord(t *testing.T) {
	for _, size := range []int{1, 2, 10, api.MaxSpace} {
		for _, l := range [][]api.Record{nil, {}} {
			wantReplay(t, "of none", size, l, []api.Range{r(0, size)}, api.OK)
			wantCondense(t, "of none", size, l, nil, api.OK)
		}
		all := []api.Record{takes(0, size)}
		wantReplay(t, "of all", size, all, nil, api.OK)
		wantCondense(t, "of all", size, all, all, api.OK)
	}
}

func TestBehindKnown(t *testing.T) {
	known := []struct {
		l    []api.Record
		free []api.Range
		few  []api.Record
	}{
		{[]api.Record{takes(0, 1)}, []api.Range{r(1, 10)}, []api.Record{takes(0, 1)}},
		{[]api.Record{takes(9, 10)}, []api.Range{r(0, 9)}, []api.Record{takes(9, 10)}},
		{[]api.Record{takes(3, 5), takes(5, 7)}, []api.Range{r(0, 3), r(7, 10)}, []api.Record{takes(3, 7)}},
		{[]api.Record{takes(5, 7), takes(3, 5)}, []api.Range{r(0, 3), r(7, 10)}, []api.Record{takes(3, 7)}},
		{[]api.Record{takes(6, 8), takes(2, 3), takes(4, 5)}, []api.Range{r(0, 2), r(3, 4), r(5, 6), r(8, 10)}, []api.Record{takes(2, 3), takes(4, 5), takes(6, 8)}},
		{[]api.Record{takes(0, 10), frees(4, 6)}, []api.Range{r(4, 6)}, []api.Record{takes(0, 4), takes(6, 10)}},
		{[]api.Record{takes(0, 10), frees(4, 6), frees(2, 4)}, []api.Range{r(2, 6)}, []api.Record{takes(0, 2), takes(6, 10)}},
		{[]api.Record{takes(0, 4), takes(4, 8), frees(3, 5), takes(4, 5)}, []api.Range{r(3, 4), r(8, 10)}, []api.Record{takes(0, 3), takes(4, 8)}},
		{[]api.Record{takes(0, 10), frees(0, 10)}, []api.Range{r(0, 10)}, nil},
		{[]api.Record{takes(0, 10), frees(5, 10), frees(0, 5), takes(2, 3), frees(2, 3), takes(2, 3)}, []api.Range{r(0, 2), r(3, 10)}, []api.Record{takes(2, 3)}},
	}
	for _, c := range known {
		wantReplay(t, fmt.Sprint(c.l), 10, c.l, c.free, api.OK)
		wantCondense(t, fmt.Sprint(c.l), 10, c.l, c.few, api.OK)
		wantReplay(t, fmt.Sprint(c.few), 10, c.few, c.free, api.OK)
	}
}

func TestBehindSizes(t *testing.T) {
	for _, size := range noSizes() {
		for _, l := range [][]api.Record{nil, {}, {takes(0, 1)}, {frees(0, 1)}, {takes(-1, 0)}, turns(api.MaxSpace), turns(api.MaxSpace + 1), make([]api.Record, api.MaxSpace+1), teeth(1, 300)} {
			wantReplay(t, fmt.Sprint(size, len(l)), size, l, nil, api.ErrRange)
			wantCondense(t, fmt.Sprint(size, len(l)), size, l, nil, api.ErrRange)
		}
	}
}

func TestBehindManyRecords(t *testing.T) {
	for _, size := range []int{1, 10, api.MaxSpace} {
		wantReplay(t, "of MaxSpace", size, turns(api.MaxSpace), []api.Range{r(0, size)}, api.OK)
		wantCondense(t, "of MaxSpace", size, turns(api.MaxSpace), nil, api.OK)
		for _, count := range []int{api.MaxSpace + 1, api.MaxSpace + 2, 3 * api.MaxSpace} {
			wrong := turns(count)
			wrong[0] = takes(-1, most)
			for _, l := range [][]api.Record{turns(count), make([]api.Record, count), wrong} {
				wantReplay(t, fmt.Sprint("of ", count), size, l, nil, api.ErrSize)
				wantCondense(t, fmt.Sprint("of ", count), size, l, nil, api.ErrSize)
			}
		}
	}
}

// Each unit by a record of its own, from the last one on.
func TestBehindARecordAUnit(t *testing.T) {
	var l []api.Record
	for i := range api.MaxSpace {
		l = append(l, takes(api.MaxSpace-1-i, api.MaxSpace-i))
	}
	wantReplay(t, "of a record a unit", api.MaxSpace, l, nil, api.OK)
	wantCondense(t, "of a record a unit", api.MaxSpace, l, []api.Record{takes(0, api.MaxSpace)}, api.OK)
}

// noRanges: of a space of ten units.
func noRanges() []api.Range {
	return []api.Range{
		r(0, 0), r(5, 5), r(10, 10), r(5, 4), r(1, 0), r(10, 9), r(10, 0), r(-1, 0), r(-1, 1), r(-1, 10), r(-3, -1), r(0, -1), r(-1, -1),
		r(0, 11), r(9, 11), r(10, 11), r(11, 12), r(11, 10), r(0, api.MaxSpace), r(0, api.MaxCount), r(0, api.MaxCount+1), r(api.MaxCount, api.MaxCount+1),
		r(least, 1), r(least, most), r(most, least), r(0, most), r(0, least), r(most, most), r(least, least), r(most-1, most), r(least, least+1), r(1<<32, 1<<32+1), r(1, 1<<32+2),
	}
}

func TestBehindNoRanges(t *testing.T) {
	for _, one := range noRanges() {
		for _, free := range []bool{false, true} {
			bad := api.Record{Free: free, Range: one}
			for _, l := range [][]api.Record{{bad}, {takes(0, 10), bad}, {takes(2, 6), bad}, {bad, takes(2, 6)}, {takes(0, 10), frees(0, 10), bad}} {
				wantReplay(t, fmt.Sprint(l), 10, l, nil, api.ErrForm)
				wantCondense(t, fmt.Sprint(l), 10, l, nil, api.ErrForm)
			}
		}
	}
}

func TestBehindNotAllFreeOrTaken(t *testing.T) {
	begin := []api.Record{takes(2, 6), frees(4, 5)} // 2, 3 and 5 are taken
	for from := range 10 {
		for to := from + 1; to <= 10; to++ {
			for _, one := range []api.Record{takes(from, to), frees(from, to)} {
				wantBehind(t, 10, append(slices.Clone(begin), one))
				wantBehind(t, 10, append(slices.Clone(begin), one, takes(9, 10)))
			}
		}
	}
	for _, l := range [][]api.Record{{frees(0, 1)}, {takes(0, 1), takes(0, 1)}, {takes(0, 1), frees(0, 1), frees(0, 1)}, {takes(0, 3), takes(2, 4)}, {takes(0, 3), frees(2, 4)}, {takes(1, 3), frees(0, 3)}, {takes(0, 5), frees(1, 2), frees(0, 3)}, {takes(0, 5), frees(1, 2), takes(1, 3)}} {
		wantReplay(t, fmt.Sprint(l), 10, l, nil, api.ErrForm)
		wantCondense(t, fmt.Sprint(l), 10, l, nil, api.ErrForm)
	}
}

// Free are as many ranges as there are teeth: one ahead of each; with the last unit free, too, one more.
func TestBehindManyRanges(t *testing.T) {
	for count := 1; count <= api.MaxSpace/2; count = count + 1 + count/8 {
		wantBehind(t, 2*count, teeth(1, count))
		wantBehind(t, min(2*count+1, api.MaxSpace), teeth(1, count))
		wantBehind(t, 2*count, teeth(0, count))
	}
	for _, count := range []int{api.MaxRanges - 1, api.MaxRanges} {
		var free []api.Range
		for i := range count {
			free = append(free, r(2*i, 2*i+1))
		}
		wantReplay(t, fmt.Sprint(count, " ranges"), 2*count, teeth(1, count), free, api.OK)
		wantCondense(t, fmt.Sprint(count, " ranges"), 2*count, teeth(1, count), teeth(1, count), api.OK)
	}
	for _, count := range []int{api.MaxRanges + 1, api.MaxRanges + 2, api.MaxSpace / 2} {
		wantReplay(t, fmt.Sprint(count, " ranges"), 2*count, teeth(1, count), nil, api.ErrFull)
		wantCondense(t, fmt.Sprint(count, " ranges"), 2*count, teeth(1, count), teeth(1, count), api.OK)
	}
	wantReplay(t, "MaxRanges and one at the end", 2*api.MaxRanges+1, teeth(1, api.MaxRanges), nil, api.ErrFull)
	// That there were more of them on the way does not count.
	l := append(teeth(1, 300), teeth(0, 300)...)
	wantReplay(t, "many on the way", 700, l, []api.Range{r(600, 700)}, api.OK)
	wantCondense(t, "many on the way", 700, l, []api.Record{takes(0, 600)}, api.OK)
}

// ErrForm is told ahead of ErrFull.
func TestReplayFormAheadOfFull(t *testing.T) {
	for _, bad := range []api.Record{takes(1, 2), frees(0, 1), takes(0, 0), takes(-1, 1), takes(4000, 5000), frees(1, 3)} {
		l := append(teeth(1, 500), bad)
		wantReplay(t, fmt.Sprint("of many and ", bad), api.MaxSpace, l, nil, api.ErrForm)
		wantCondense(t, fmt.Sprint("of many and ", bad), api.MaxSpace, l, nil, api.ErrForm)
	}
}

// Every two records of a space of four units.
func TestBehindEachShortList(t *testing.T) {
	var some []api.Record
	for from := -1; from <= 5; from++ {
		for to := -1; to <= 5; to++ {
			some = append(some, takes(from, to), frees(from, to))
		}
	}
	for _, a := range some {
		wantBehind(t, 4, []api.Record{a})
		for _, b := range some {
			wantBehind(t, 4, []api.Record{a, b})
			wantBehind(t, 4, []api.Record{takes(1, 3), a, b})
		}
	}
}

// Records that take and free by turns, now and then a wrong one at the end.
func TestBehindAgainstPlainList(t *testing.T) {
	s := seed(77)
	for round := range 600 {
		size := []int{1, 2, 5, 12, 40, 900, api.MaxSpace}[round%7]
		in := make([]bool, size)
		var l []api.Record
		for range s.below(200) * (1 + size/900) {
			from := s.below(size)
			to := from + 1
			for stop := 1 + s.below(6); to < size && in[to] == in[from] && to-from < stop; to++ {
			}
			l = append(l, api.Record{Free: in[from], Range: r(from, to)})
			is := !in[from]
			for i := from; i < to; i++ {
				in[i] = is
			}
		}
		wantBehind(t, size, l)
		from := s.below(size)
		wantBehind(t, size, append(l, api.Record{Free: s.below(2) == 0, Range: r(from, from+1+s.below(3))}))
	}
}

// What holds everywhere

func TestHandedInListsStay(t *testing.T) {
	deeds := make([]api.Deed, 0, 9)
	deeds = append(deeds, take(4), give(1, 2), commit(), commit(), take(1))
	logged := make([]api.Record, 0, 9)
	logged = append(logged, takes(0, 4), frees(1, 3), takes(1, 2))
	for i := range deeds[5:9] {
		deeds[:9][5+i] = give(i, 77)
	}
	for i := range logged[3:9] {
		logged[:9][3+i] = frees(i, 77)
	}
	deedsWere, loggedWere := slices.Clone(deeds[:9]), slices.Clone(logged[:9])
	for range 2 {
		wantPlay(t, "with spare room", 6, deeds, []api.Found{ok(0, 2), ok(0, 2), ok(0, 2), ok(0, 4), ok(1, 3)}, logged, api.OK)
		wantReplay(t, "with spare room", 6, logged, []api.Range{r(2, 3), r(4, 6)}, api.OK)
		wantCondense(t, "with spare room", 6, logged, []api.Record{takes(0, 2), takes(3, 4)}, api.OK)
		if !slices.Equal(deeds[:9], deedsWere) || !slices.Equal(logged[:9], loggedWere) {
			t.Errorf("lists are other ones: %v %v", deeds[:9], logged[:9])
		}
	}
}

func TestAnswersAreNew(t *testing.T) {
	deeds := []api.Deed{take(4), give(1, 2), commit(), commit(), take(1)}
	f, l, _ := Play(6, deeds)
	log := []api.Record{takes(0, 4), frees(1, 3), takes(1, 2)}
	free, _ := Replay(6, log)
	few, _ := Condense(6, log)
	alone, _ := Condense(6, log[:1])
	clear(f[:cap(f)])
	clear(l[:cap(l)])
	clear(free[:cap(free)])
	clear(few[:cap(few)])
	clear(alone[:cap(alone)])
	wantPlay(t, "again", 6, deeds, []api.Found{ok(0, 2), ok(0, 2), ok(0, 2), ok(0, 4), ok(1, 3)}, log, api.OK)
	wantReplay(t, "again", 6, log, []api.Range{r(2, 3), r(4, 6)}, api.OK)
	wantCondense(t, "again", 6, log, []api.Record{takes(0, 2), takes(3, 4)}, api.OK)
}
