package par

import (
	"bytes"
	"fmt"
	"math"
	"testing"

	"quickset/api"
	"quickset/gf"
)

// seed: a row of numbers that looks like chance and is the same in every run.
type seed struct{ now uint64 }

func (s *seed) next() int {
	s.now = s.now*6364136223846793005 + 1442695040888963407
	return int(s.now >> 40 & 255)
}

func (s *seed) column(size int) []byte {
	column := make([]byte, size)
	for k := range column {
		column[k] = byte(s.next())
	}
	return column
}

func (s *seed) columns(n, size int) [][]byte {
	l := make([][]byte, n)
	for i := range l {
		l[i] = s.column(size)
	}
	return l
}

// sized: columns of these lengths.
func sized(sizes ...int) [][]byte {
	l := make([][]byte, len(sizes))
	for i, n := range sizes {
		l[i] = make([]byte, n)
	}
	return l
}

// zeros: that many columns of 0s.
func zeros(n, size int) [][]byte {
	l := make([][]byte, n)
	for i := range l {
		l[i] = make([]byte, size)
	}
	return l
}

// slowParity: the parity column j, by the words of P3.2, place by place.
func slowParity(data [][]byte, j int) []byte {
	column := make([]byte, len(data[0]))
	for place := range column {
		sum := 0
		for i := range data {
			f, _ := gf.Exp(j * i)
			p, _ := gf.Mul(f, int(data[i][place]))
			sum, _ = gf.Add(sum, p)
		}
		column[place] = byte(sum)
	}
	return column
}

// whole: the data columns, and their parity columns behind them.
func whole(data [][]byte, parity int) [][]byte {
	all := append([][]byte{}, data...)
	for j := range parity {
		all = append(all, slowParity(data, j))
	}
	return all
}

func same(a, b [][]byte) bool {
	if len(a) != len(b) {
		return false
	}
	for i := range a {
		if !bytes.Equal(a[i], b[i]) {
			return false
		}
	}
	return true
}

// want: is what a call answered (its columns and its error) as it should be?
func want(t *testing.T, what string, got [][]byte, code api.Errno, columns [][]byte, errno api.Errno) {
	t.Helper()
	if !same(got, columns) || code != errno {
		t.Errorf("%s: %v %d, want %v %d", what, got, code, columns, errno)
	}
}

// wantCode: a refusal tells its number and no columns.
func wantCode(t *testing.T, what string, got [][]byte, code api.Errno, errno api.Errno) {
	t.Helper()
	if len(got) != 0 || code != errno {
		t.Errorf("%s: %d columns %d, want none and %d", what, len(got), code, errno)
	}
}

// strange: numbers of parity columns that may not be.
var strange = []int{0, -1, -2, -3, api.MaxParity + 1, api.MaxData, 256, 1 << 32, 1<<32 + 1, math.MinInt64, math.MinInt64 + 1, math.MaxInt64}

// notColumns: lists of columns that may not be.
func notColumns() [][][]byte {
	return [][][]byte{
		nil,
		{},
		zeros(api.MaxData+1, 0),
		zeros(100, 0),
		sized(api.MaxColumn + 1),
		sized(api.MaxColumn+1, api.MaxColumn+1),
		sized(api.MaxColumn, api.MaxColumn+1),
		sized(0, 1),
		sized(1, 0),
		sized(2, 2, 2, 1),
		sized(2, 2, 3, 2),
		sized(1, 2, 2, 2),
		{nil, {0}},
		{{0}, nil},
	}
}

// P3.1

func TestMayOfNumbers(t *testing.T) {
	for n := range 40 {
		for _, size := range []int{0, 1, 2, 17, api.MaxColumn} {
			if got := May(zeros(n, size)); got != (n >= 1 && n <= 12) {
				t.Errorf("May of %d columns of %d bytes: %v", n, size, got)
			}
		}
	}
}

func TestMayOfLengths(t *testing.T) {
	for _, n := range []int{1, 2, api.MaxData} {
		for _, size := range []int{0, 1, 4095, 4096, 4097, 5000, 100000} {
			if got := May(zeros(n, size)); got != (size <= 4096) {
				t.Errorf("May of %d columns of %d bytes: %v", n, size, got)
			}
		}
	}
	if !May([][]byte{nil, {}, nil}) {
		t.Errorf("columns of no byte may be")
	}
}

func TestMayOfSeveralLengths(t *testing.T) {
	for n := 2; n <= api.MaxData; n++ {
		for place := range n {
			for _, other := range []int{0, 1, 2, 4, 5, api.MaxColumn, api.MaxColumn + 1} {
				sizes := make([]int, n)
				for i := range sizes {
					sizes[i] = 3
				}
				sizes[place] = other
				if May(sized(sizes...)) {
					t.Errorf("May of columns of %v bytes", sizes)
				}
			}
		}
	}
	for i, l := range notColumns() {
		if May(l) {
			t.Errorf("May of those at %d", i)
		}
	}
}

// P3.2

func TestEncodeOfKnown(t *testing.T) {
	known := []struct {
		data   [][]byte
		parity int
		want   [][]byte
	}{
		{[][]byte{{7}}, 1, [][]byte{{7}}},
		{[][]byte{{7}}, 3, [][]byte{{7}, {7}, {7}}},
		{[][]byte{{0}, {1}}, 3, [][]byte{{1}, {2}, {4}}},
		{[][]byte{{0}, {0}, {1}}, 3, [][]byte{{1}, {4}, {16}}},
		{[][]byte{{0}, {0}, {0}, {0}, {1}}, 3, [][]byte{{1}, {16}, {29}}},
		{[][]byte{{0}, {128}}, 3, [][]byte{{128}, {29}, {58}}},
		{[][]byte{{1}, {1}}, 2, [][]byte{{0}, {3}}},
		{[][]byte{{255}, {255}}, 1, [][]byte{{0}}},
		{[][]byte{{1, 200}, {2, 0}, {3, 7}}, 3, [][]byte{{0, 207}, {9, 212}, {57, 184}}},
		{[][]byte{{1, 200}, {2, 0}, {3, 7}}, 2, [][]byte{{0, 207}, {9, 212}}},
		{[][]byte{{1, 200}, {2, 0}, {3, 7}}, 1, [][]byte{{0, 207}}},
		{[][]byte{{0}, {0}, {0}, {0}, {0}, {0}, {0}, {0}, {0}, {0}, {0}, {1}}, 3, [][]byte{{1}, {232}, {234}}},
	}
	for _, c := range known {
		got, code := Encode(c.data, c.parity)
		want(t, fmt.Sprint("Encode ", c.data, c.parity), got, code, c.want, api.OK)
	}
}

func TestEncodeByTheWords(t *testing.T) {
	s := &seed{1}
	for n := 1; n <= api.MaxData; n++ {
		for parity := 1; parity <= api.MaxParity; parity++ {
			for _, size := range []int{0, 1, 2, 31} {
				data := s.columns(n, size)
				got, code := Encode(data, parity)
				want(t, "Encode", got, code, whole(data, parity)[n:], api.OK)
			}
		}
	}
}

// Each element in each data column: the products must all be right.
func TestEncodeOfEachElement(t *testing.T) {
	each := make([]byte, 256)
	for k := range each {
		each[k] = byte(k)
	}
	for place := range api.MaxData {
		data := zeros(api.MaxData, 256)
		data[place] = each
		got, code := Encode(data, api.MaxParity)
		want(t, fmt.Sprint("Encode of each element in ", place), got, code, whole(data, api.MaxParity)[api.MaxData:], api.OK)
	}
}

func TestEncodeOfTheGreatest(t *testing.T) {
	s := &seed{2}
	data := s.columns(api.MaxData, api.MaxColumn)
	got, code := Encode(data, api.MaxParity)
	if !same(got, whole(data, api.MaxParity)[api.MaxData:]) || code != api.OK {
		t.Errorf("Encode of the greatest: %d columns %d", len(got), code)
	}
}

func TestEncodeOfNoByte(t *testing.T) {
	for n := 1; n <= api.MaxData; n++ {
		for parity := 1; parity <= api.MaxParity; parity++ {
			got, code := Encode(make([][]byte, n), parity)
			want(t, "Encode of no byte", got, code, make([][]byte, parity), api.OK)
		}
	}
}

func TestEncodeRefuses(t *testing.T) {
	for _, l := range notColumns() {
		for parity := 1; parity <= api.MaxParity; parity++ {
			got, code := Encode(l, parity)
			wantCode(t, "Encode", got, code, api.ErrForm)
		}
		for _, parity := range strange { // ErrForm is named first
			got, code := Encode(l, parity)
			wantCode(t, "Encode", got, code, api.ErrForm)
		}
	}
	for _, l := range [][][]byte{sized(0), sized(1), sized(2, 2), zeros(api.MaxData, api.MaxColumn)} {
		for _, parity := range strange {
			got, code := Encode(l, parity)
			wantCode(t, fmt.Sprint("Encode ", parity), got, code, api.ErrRange)
		}
	}
}

// P3.3

// each: calls with every list of at most most numbers ahead of n that all differ, in every order.
func each(n, most int, call func(l []int)) {
	var walk func(l []int)
	walk = func(l []int) {
		call(l)
		if len(l) == most {
			return
		}
	next:
		for k := range n {
			for _, a := range l {
				if a == k {
					continue next
				}
			}
			walk(append(append([]int{}, l...), k))
		}
	}
	walk(nil)
}

// harmed: the columns, with something else where they were lost.
func harmed(all [][]byte, lost []int, what func(place int) []byte) [][]byte {
	l := append([][]byte{}, all...)
	for _, k := range lost {
		l[k] = what(k)
	}
	return l
}

func TestRebuildOfKnown(t *testing.T) {
	known := []struct {
		all    [][]byte
		parity int
		lost   []int
		want   [][]byte
	}{
		{[][]byte{{7}, {7}}, 1, nil, [][]byte{{7}, {7}}},
		{[][]byte{{9}, {7}}, 1, []int{0}, [][]byte{{7}, {7}}},
		{[][]byte{{7}, {9}}, 1, []int{1}, [][]byte{{7}, {7}}},
		{[][]byte{nil, nil, nil, {5}}, 3, []int{0, 1, 2}, [][]byte{{5}, {5}, {5}, {5}}},
		{[][]byte{nil, {2, 0}, {3, 7}, nil, {9, 212}, nil}, 3, []int{5, 0, 3}, [][]byte{{1, 200}, {2, 0}, {3, 7}, {0, 207}, {9, 212}, {57, 184}}},
		{[][]byte{nil, nil, nil, {0, 207}, {9, 212}, {57, 184}}, 3, []int{2, 0, 1}, [][]byte{{1, 200}, {2, 0}, {3, 7}, {0, 207}, {9, 212}, {57, 184}}},
		{[][]byte{{1}, {1, 2}}, 1, []int{0}, [][]byte{{1, 2}, {1, 2}}},
		{[][]byte{nil, {}}, 1, []int{0}, [][]byte{{}, {}}},
	}
	for _, c := range known {
		got, code := Rebuild(c.all, c.parity, c.lost)
		want(t, fmt.Sprint("Rebuild ", c.all, c.parity, c.lost), got, code, c.want, api.OK)
	}
}

// Every choice of lost columns, in every order, at every number of columns.
func TestRebuildOfEachChoice(t *testing.T) {
	s := &seed{3}
	for parity := 1; parity <= api.MaxParity; parity++ {
		for n := 1; n <= api.MaxData; n++ {
			all := whole(s.columns(n, 3), parity)
			each(n+parity, parity, func(lost []int) {
				l := harmed(all, lost, func(int) []byte { return s.column(3) })
				got, code := Rebuild(l, parity, lost)
				want(t, fmt.Sprint("Rebuild ", n, parity, lost), got, code, all, api.OK)
			})
		}
	}
}

// What stands where a column was lost is not looked at.
func TestRebuildOfAnything(t *testing.T) {
	s := &seed{4}
	anything := []func(int) []byte{
		func(int) []byte { return nil },
		func(int) []byte { return []byte{} },
		func(int) []byte { return []byte{1} },
		func(int) []byte { return s.column(4) },
		func(int) []byte { return s.column(5) },
		func(int) []byte { return s.column(6) },
		func(int) []byte { return s.column(api.MaxColumn + 1) },
		func(place int) []byte { return s.column(place) },
	}
	for _, n := range []int{1, 2, 4} {
		for parity := 1; parity <= api.MaxParity; parity++ {
			for _, size := range []int{0, 5} {
				all := whole(s.columns(n, size), parity)
				each(n+parity, parity, func(lost []int) {
					for _, what := range anything {
						got, code := Rebuild(harmed(all, lost, what), parity, lost)
						want(t, fmt.Sprint("Rebuild ", n, parity, lost), got, code, all, api.OK)
					}
				})
			}
		}
	}
}

func TestRebuildOfTheGreatest(t *testing.T) {
	s := &seed{5}
	all := whole(s.columns(api.MaxData, api.MaxColumn), api.MaxParity)
	for _, lost := range [][]int{nil, {}, {0, 5, 11}, {11, 13, 0}, {12, 13, 14}, {14, 3}} {
		l := harmed(all, lost, func(int) []byte { return nil })
		got, code := Rebuild(l, api.MaxParity, lost)
		if !same(got, all) || code != api.OK {
			t.Errorf("Rebuild of the greatest, lost %v: %d columns %d", lost, len(got), code)
		}
	}
}

// has: is the number one of the list?
func has(l []int, a int) bool {
	for _, b := range l {
		if a == b {
			return true
		}
	}
	return false
}

// Columns that are no whole: what was not lost is as it was, right or not; the used parity columns alone tell the lost data columns, and all data columns the lost parity columns.
func TestRebuildOfColumnsThatDoNotFit(t *testing.T) {
	s := &seed{6}
	for parity := 1; parity <= api.MaxParity; parity++ {
		for _, n := range []int{1, 2, 3, 5, api.MaxData} {
			each(n+parity, parity, func(lost []int) {
				all := s.columns(n+parity, 4)
				got, code := Rebuild(all, parity, lost)
				if code != api.OK || len(got) != n+parity {
					t.Fatalf("Rebuild %d %d %v: %v %d", n, parity, lost, got, code)
				}
				used := 0
				for _, k := range lost {
					if k < n {
						used++
					}
				}
				for k := range all {
					gone := has(lost, k)
					if !gone && !bytes.Equal(got[k], all[k]) {
						t.Errorf("Rebuild %d %d %v: column %d is not as it was", n, parity, lost, k)
					}
					if k < n || !gone && used == 0 {
						continue
					}
					if !gone {
						used--
					}
					if !bytes.Equal(got[k], slowParity(got[:n], k-n)) {
						t.Errorf("Rebuild %d %d %v: column %d does not come out", n, parity, lost, k)
					}
				}
			})
		}
	}
}

func TestRebuildRefusesParity(t *testing.T) {
	for _, n := range []int{0, 1, 2, 3, 4, 5, 12, 13, 16} {
		for _, parity := range strange {
			for _, lost := range [][]int{nil, {0}, {0, 0}, {99}, {-1}} {
				got, code := Rebuild(zeros(n, 2), parity, lost)
				wantCode(t, fmt.Sprint("Rebuild ", n, parity, lost), got, code, api.ErrRange)
			}
		}
	}
	for _, parity := range strange { // ahead of ErrForm
		got, code := Rebuild(sized(1, 2, 3, 4), parity, nil)
		wantCode(t, fmt.Sprint("Rebuild ", parity), got, code, api.ErrRange)
	}
}

func TestRebuildRefusesTheNumberOfColumns(t *testing.T) {
	for parity := 1; parity <= api.MaxParity; parity++ {
		for n := range 30 {
			data := n - parity
			got, code := Rebuild(make([][]byte, n), parity, nil)
			if data >= 1 && data <= 12 {
				want(t, fmt.Sprint("Rebuild ", n, parity), got, code, make([][]byte, n), api.OK)
				continue
			}
			wantCode(t, fmt.Sprint("Rebuild ", n, parity), got, code, api.ErrRange)
			sizes := make([]int, n)
			for i := range sizes {
				sizes[i] = i
			}
			for _, lost := range [][]int{nil, {0, 0}, {0, 1, 2, 3}} { // ahead of ErrForm, ErrTwice and ErrLost
				got, code = Rebuild(sized(sizes...), parity, lost)
				wantCode(t, fmt.Sprint("Rebuild ", n, parity, lost), got, code, api.ErrRange)
			}
		}
	}
}

func TestRebuildRefuses(t *testing.T) {
	most := api.MaxColumn
	cases := []struct {
		sizes  []int
		parity int
		lost   []int
		want   api.Errno
	}{
		// Those that were not lost are not of one length, or too long.
		{[]int{1, 2}, 1, nil, api.ErrForm},
		{[]int{2, 1}, 1, nil, api.ErrForm},
		{[]int{2, 2, 2, 2, 3}, 2, nil, api.ErrForm},
		{[]int{2, 2, 2, 2, 3}, 2, []int{0, 3}, api.ErrForm},
		{[]int{3, 2, 2, 2, 3}, 2, []int{0}, api.ErrForm},
		{[]int{0, 2, 2}, 1, []int{1}, api.ErrForm},
		{[]int{2, 0, 2}, 1, []int{2}, api.ErrForm},
		{[]int{most + 1, most + 1}, 1, nil, api.ErrForm},
		{[]int{most + 1, most + 1}, 1, []int{0}, api.ErrForm},
		{[]int{most + 1, 1}, 1, []int{1}, api.ErrForm},
		{[]int{most, most + 1, most}, 1, []int{0}, api.ErrForm},
		// .. and that stands ahead of what is wrong with lost.
		{[]int{1, 2}, 1, []int{2}, api.ErrForm},
		{[]int{1, 2}, 1, []int{-1}, api.ErrForm},
		{[]int{1, 2, 3}, 1, []int{0, 99}, api.ErrForm},
		{[]int{1, 2, 3}, 1, []int{0, 0}, api.ErrForm},
		{[]int{1, 2, 3, 4}, 1, []int{0, 1}, api.ErrForm},
		{[]int{1, 2, most + 1}, 1, []int{0, 1, 1, 77}, api.ErrForm},
		// One of lost is no place.
		{[]int{2, 2, 2}, 1, []int{3}, api.ErrRange},
		{[]int{2, 2, 2}, 1, []int{-1}, api.ErrRange},
		{[]int{2, 2, 2}, 1, []int{math.MinInt64}, api.ErrRange},
		{[]int{2, 2, 2}, 1, []int{math.MaxInt64}, api.ErrRange},
		{[]int{2, 2, 2}, 1, []int{1 << 32}, api.ErrRange},
		{[]int{2, 2, 2, 2}, 2, []int{0, 4}, api.ErrRange},
		{[]int{2, 2, 2, 2}, 2, []int{4, 0}, api.ErrRange},
		// .. ahead of ErrTwice and ErrLost, wherever it stands.
		{[]int{2, 2, 2, 2}, 2, []int{0, 0, 4}, api.ErrRange},
		{[]int{2, 2, 2, 2}, 2, []int{4, 4}, api.ErrRange},
		{[]int{2, 2, 2, 2}, 2, []int{0, 1, 2, -1}, api.ErrRange},
		{[]int{2, 2, 2, 2}, 1, []int{0, 1, 2, 3, 4}, api.ErrRange},
		{[]int{1, 2, 2}, 1, []int{0, 3}, api.ErrRange},
		{[]int{1, 2, 3}, 1, []int{0, 1, 2, 3}, api.ErrRange},
		// Two of lost are the same.
		{[]int{2, 2, 2, 2}, 2, []int{0, 0}, api.ErrTwice},
		{[]int{2, 2, 2, 2}, 2, []int{3, 3}, api.ErrTwice},
		{[]int{2, 2, 2, 2}, 3, []int{1, 0, 1}, api.ErrTwice},
		{[]int{1, 2, 2, 2}, 3, []int{0, 0}, api.ErrTwice},
		// .. ahead of ErrLost.
		{[]int{2, 2, 2, 2}, 1, []int{2, 2}, api.ErrTwice},
		{[]int{2, 2, 2, 2}, 2, []int{0, 1, 2, 0}, api.ErrTwice},
		{[]int{2, 2, 2, 2}, 2, []int{0, 1, 2, 3, 3}, api.ErrTwice},
		{[]int{1, 2, 3, 4}, 2, []int{0, 1, 2, 3, 0}, api.ErrTwice},
		// More than parity.
		{[]int{2, 2, 2, 2}, 1, []int{0, 1}, api.ErrLost},
		{[]int{2, 2, 2, 2}, 2, []int{3, 1, 2}, api.ErrLost},
		{[]int{2, 2, 2, 2}, 3, []int{3, 1, 2, 0}, api.ErrLost},
		{[]int{0, 0, 0, 0}, 3, []int{3, 1, 2, 0}, api.ErrLost},
		{[]int{1, 2, 3, most + 1}, 1, []int{0, 1, 2, 3}, api.ErrLost},
		{[]int{1, 2, 3, 3}, 1, []int{0, 1}, api.ErrLost},
		{[]int{2, 2}, 1, []int{0, 1}, api.ErrLost},
		// As many as parity.
		{[]int{1, 2}, 1, []int{0}, api.OK},
		{[]int{1, 2, 3, 3}, 2, []int{1, 0}, api.OK},
		{[]int{most + 1, 3}, 1, []int{0}, api.OK},
		{[]int{most, most}, 1, nil, api.OK},
	}
	for _, c := range cases {
		got, code := Rebuild(sized(c.sizes...), c.parity, c.lost)
		what := fmt.Sprint("Rebuild of lengths ", c.sizes, c.parity, c.lost)
		if c.want != api.OK {
			wantCode(t, what, got, code, c.want)
		} else if code != api.OK || len(got) != len(c.sizes) {
			t.Errorf("%s: %d columns %d", what, len(got), code)
		}
	}
}

// A list of lost places that is far longer than there are columns.
func TestRebuildOfManyLost(t *testing.T) {
	many := make([]int, 200000)
	got, code := Rebuild(sized(2, 2, 2), 1, many)
	wantCode(t, "Rebuild", got, code, api.ErrTwice)
	for k := range many {
		many[k] = k
	}
	got, code = Rebuild(sized(2, 2, 2), 1, many)
	wantCode(t, "Rebuild", got, code, api.ErrRange)
}

// What holds everywhere: what was handed in is as it was, and answers are new memory.

// roomy: the columns with spare room behind each of them and behind the list.
func roomy(l [][]byte) [][]byte {
	out := make([][]byte, 0, len(l)+3)
	for _, column := range l {
		wide := bytes.Repeat([]byte{171}, len(column)+20)
		copy(wide, column)
		out = append(out, wide[:len(column)])
	}
	copy(out[len(out):cap(out)], [][]byte{{1}, {2}, {3}})
	return out
}

// memory: a copy of all that the list has, spare room too.
func memory(l [][]byte) [][]byte {
	var out [][]byte
	for _, column := range l[:cap(l)] {
		out = append(out, append([]byte{}, column[:cap(column)]...))
	}
	return out
}

// scribble: writes all over an answer, one column after the other; each must still be as it was told when its turn comes.
func scribble(t *testing.T, what string, l [][]byte) {
	t.Helper()
	told := make([][]byte, len(l))
	for i, column := range l {
		told[i] = append([]byte{}, column...)
	}
	for i, column := range l {
		if !bytes.Equal(column, told[i]) {
			t.Errorf("%s: column %d shares memory with one ahead of it", what, i)
		}
		column = column[:cap(column)]
		for k := range column {
			column[k] ^= 85
		}
	}
	spare := l[:cap(l)]
	for k := range spare {
		spare[k] = nil
	}
}

func TestWhatIsHandedInIsKept(t *testing.T) {
	s := &seed{7}
	for _, n := range []int{1, 3, api.MaxData} {
		for parity := range api.MaxParity + 2 {
			data := roomy(s.columns(n, 5))
			was := memory(data)
			got, _ := Encode(data, parity)
			scribble(t, "Encode", got)
			May(data)
			if !same(memory(data), was) {
				t.Errorf("Encode %d %d: the columns are not as they were", n, parity)
			}
			each(n+parity, min(parity, 2), func(lost []int) {
				l := roomy(harmed(s.columns(n+parity, 5), lost, func(place int) []byte { return s.column(place) }))
				was := memory(l)
				wide := append(append(make([]int, 0, 9), lost...), 7, 8, 9)
				wasLost := fmt.Sprint(wide)
				got, _ := Rebuild(l, parity, wide[:len(lost)])
				scribble(t, "Rebuild", got)
				if !same(memory(l), was) || fmt.Sprint(wide) != wasLost {
					t.Errorf("Rebuild %d %d %v: what was handed in is not as it was", n, parity, lost)
				}
			})
		}
	}
}

func TestColumnsThatShareMemory(t *testing.T) {
	row := []byte{5, 6, 7, 8}
	sliding := [][]byte{row[:2], row[1:3], row[:2]}
	apart := [][]byte{{5, 6}, {6, 7}, {5, 6}}
	got, code := Encode(sliding, 3)
	want(t, "Encode", got, code, whole(apart, 3)[3:], api.OK)
	scribble(t, "Encode", got)
	for _, lost := range [][]int{nil, {0}, {1, 2}} {
		l := append(append([][]byte{}, sliding...), whole(apart, 3)[3:]...)
		got, code = Rebuild(l, 3, lost)
		want(t, "Rebuild", got, code, whole(apart, 3), api.OK)
		scribble(t, "Rebuild", got)
	}
	if !bytes.Equal(row, []byte{5, 6, 7, 8}) {
		t.Errorf("the columns are not as they were: %v", row)
	}
}

func TestAnswersAreTheSameAgain(t *testing.T) {
	s := &seed{8}
	a, b := s.columns(6, 9), s.columns(6, 9)
	first, _ := Encode(a, 3)
	built, _ := Rebuild(a, 2, []int{1, 4})
	Encode(b, 3)
	Rebuild(b, 2, []int{0, 5})
	got, code := Encode(a, 3)
	want(t, "Encode again", got, code, first, api.OK)
	got, code = Rebuild(a, 2, []int{1, 4})
	want(t, "Rebuild again", got, code, built, api.OK)
}
