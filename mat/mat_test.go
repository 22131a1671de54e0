package mat

import (
	"fmt"
	"math"
	"reflect"
	"testing"

	"quickset/api"
	"quickset/gf"
)

// strangers: numbers that are no elements.
var strangers = []int{-1, -255, -256, 256, 257, 511, 1 << 32, 1<<32 + 5, math.MinInt64, math.MaxInt64}

// seed: a row of numbers that looks like chance and is the same in every run.
type seed struct{ now uint64 }

func (s *seed) next() int {
	s.now = s.now*6364136223846793005 + 1442695040888963407
	return int(s.now >> 40 & 255)
}

func (s *seed) matrix(rows, columns int) [][]int {
	return made(rows, columns, func(int, int) int { return s.next() })
}

func made(rows, columns int, at func(row, column int) int) [][]int {
	m := make([][]int, rows)
	for i := range m {
		m[i] = make([]int, columns)
		for k := range m[i] {
			m[i][k] = at(i, k)
		}
	}
	return m
}

func full(rows, columns, a int) [][]int {
	return made(rows, columns, func(int, int) int { return a })
}

func unit(n int) [][]int {
	return made(n, n, func(row, column int) int {
		if row == column {
			return 1
		}
		return 0
	})
}

func list(s *seed, n int) []int { return s.matrix(1, n)[0] }

func add(a, b int) int { c, _ := gf.Add(a, b); return c }
func mul(a, b int) int { c, _ := gf.Mul(a, b); return c }

// slowProduct: by the words of P2.2.
func slowProduct(a, b [][]int) [][]int {
	return made(len(a), len(b[0]), func(row, column int) int {
		sum := 0
		for i := range b {
			sum = add(sum, mul(a[row][i], b[i][column]))
		}
		return sum
	})
}

// without: m less a row and a column.
func without(m [][]int, row, column int) [][]int {
	return made(len(m)-1, len(m[0])-1, func(i, k int) int {
		if i >= row {
			i++
		}
		if k >= column {
			k++
		}
		return m[i][k]
	})
}

// determinant: by its first row; a sum is its own difference, so no signs are needed.
func determinant(m [][]int) int {
	if len(m) == 1 {
		return m[0][0]
	}
	d := 0
	for k, a := range m[0] {
		d = add(d, mul(a, determinant(without(m, 0, k))))
	}
	return d
}

// slowRank: the side of the greatest part, of some rows and some columns, whose determinant is not 0.
func slowRank(m [][]int) int {
	if len(m) == len(m[0]) && determinant(m) != 0 {
		return len(m)
	}
	best := 0
	if len(m) > len(m[0]) || len(m) == len(m[0]) && len(m) > 1 {
		for i := range m {
			best = max(best, slowRank(made(len(m)-1, len(m[0]), func(row, column int) int {
				if row >= i {
					row++
				}
				return m[row][column]
			})))
		}
	}
	if len(m[0]) > len(m) {
		for k := range m[0] {
			best = max(best, slowRank(made(len(m), len(m[0])-1, func(row, column int) int {
				if column >= k {
					column++
				}
				return m[row][column]
			})))
		}
	}
	return best
}

func same(a, b [][]int) bool {
	if len(a) != len(b) {
		return false
	}
	for i := range a {
		if !sameList(a[i], b[i]) {
			return false
		}
	}
	return true
}

func sameList(a, b []int) bool {
	return len(a) == len(b) && (len(a) == 0 || reflect.DeepEqual(a, b))
}

func wantMatrix(t *testing.T, what string, got [][]int, code api.Errno, want [][]int, errno api.Errno) {
	t.Helper()
	if !same(got, want) || code != errno {
		t.Errorf("%s: %v %d, want %v %d", what, got, code, want, errno)
	}
}

func wantList(t *testing.T, what string, got []int, code api.Errno, want []int, errno api.Errno) {
	t.Helper()
	if !sameList(got, want) || code != errno {
		t.Errorf("%s: %v %d, want %v %d", what, got, code, want, errno)
	}
}

func wantRank(t *testing.T, m [][]int, want int) {
	t.Helper()
	got, code := Rank(m)
	if got != want || code != api.OK {
		t.Errorf("Rank %v: %d %d, want %d 0", m, got, code, want)
	}
}

// refused: matrices that may not be, with what is wrong there.
func refused() map[string][][]int {
	bad := map[string][][]int{
		"nil":                        nil,
		"no row":                     {},
		"a row too many":             full(api.MaxSide+1, 1, 1),
		"a row too many, square":     unit(api.MaxSide + 1),
		"far too many rows":          full(1000, 1, 1),
		"one row of no column":       {{}},
		"one nil row":                {nil},
		"rows of no column":          {{}, {}},
		"MaxSide rows of no column":  make([][]int, api.MaxSide),
		"a column too many":          full(1, api.MaxSide+1, 1),
		"a column too many, in all":  full(api.MaxSide, api.MaxSide+1, 1),
		"far too many columns":       full(1, 1000, 1),
		"second row longer":          {{1}, {2, 3}},
		"second row shorter":         {{1, 2}, {3}},
		"second row empty":           {{1}, {}},
		"first row empty":            {{}, {1}},
		"last row nil":               {{1, 2}, {3, 4}, nil},
		"last row a column too long": append(full(2, api.MaxSide, 1), full(1, api.MaxSide+1, 1)...),
		"as many in all":             {{1, 2, 3}, {4}},
	}
	for _, s := range strangers {
		for row := range 2 {
			for column := range 3 {
				m := full(2, 3, 255)
				m[row][column] = s
				bad[fmt.Sprintf("%d in row %d, column %d", s, row, column)] = m
			}
		}
		bad[fmt.Sprintf("%d alone", s)] = [][]int{{s}}
		corner := unit(api.MaxSide)
		corner[api.MaxSide-1][api.MaxSide-1] = s
		bad[fmt.Sprintf("%d in the last corner", s)] = corner
	}
	return bad
}

// P2.1

func TestMayBe(t *testing.T) {
	for rows := 1; rows <= api.MaxSide; rows++ {
		for columns := 1; columns <= api.MaxSide; columns++ {
			for _, a := range []int{0, 1, 128, 255} {
				if !May(full(rows, columns, a)) {
					t.Errorf("%d rows of %d columns of %d may not be", rows, columns, a)
				}
			}
		}
	}
	if !May([][]int{{1, 2}}) || !May([][]int{{0}, {255}}) {
		t.Error("a small one may not be")
	}
}

func TestMayNotBe(t *testing.T) {
	for why, m := range refused() {
		if May(m) {
			t.Errorf("%s: %v may be", why, m)
		}
	}
}

func TestMaxSide(t *testing.T) {
	if !May(full(8, 8, 1)) || May(full(9, 8, 1)) || May(full(8, 9, 1)) {
		t.Error("eight is the greatest side, of rows and of columns")
	}
}

func TestRowsThatShareMayBe(t *testing.T) {
	row := []int{1, 2, 3}
	if !May([][]int{row, row}) || !May([][]int{row[:2], row[1:]}) {
		t.Error("rows that share memory may be")
	}
}

func TestFormAheadOfAllElse(t *testing.T) {
	good := [][][]int{{{1}}, {{1, 2}}, {{1}, {2}}, {{0}}, unit(3), full(8, 8, 0)}
	for why, m := range refused() {
		for _, g := range good {
			got, code := Mul(m, g)
			wantMatrix(t, "Mul, first: "+why, got, code, nil, api.ErrForm)
			got, code = Mul(g, m)
			wantMatrix(t, "Mul, second: "+why, got, code, nil, api.ErrForm)
		}
		got, code := Mul(m, m)
		wantMatrix(t, "Mul, both: "+why, got, code, nil, api.ErrForm)
		for _, v := range [][]int{nil, {}, {1}, {1, 2}, {1, 2, 3}, {256}, make([]int, 9)} {
			got, code := Apply(m, v)
			wantList(t, "Apply: "+why, got, code, nil, api.ErrForm)
		}
		rank, code := Rank(m)
		if rank != 0 || code != api.ErrForm {
			t.Errorf("Rank: %s: %d %d", why, rank, code)
		}
		got, code = Invert(m)
		wantMatrix(t, "Invert: "+why, got, code, nil, api.ErrForm)
	}
}

// P2.2

func TestMulOfKnown(t *testing.T) {
	known := []struct{ a, b, want [][]int }{
		{[][]int{{3}}, [][]int{{7}}, [][]int{{9}}},
		{[][]int{{128}}, [][]int{{2}}, [][]int{{29}}},
		{[][]int{{0}}, [][]int{{255}}, [][]int{{0}}},
		{[][]int{{1, 2}, {3, 4}}, [][]int{{2, 0}, {1, 1}}, [][]int{{0, 2}, {2, 4}}},
		{[][]int{{2, 0}, {1, 1}}, [][]int{{1, 2}, {3, 4}}, [][]int{{2, 4}, {2, 6}}},
		{[][]int{{1, 2, 3}}, [][]int{{1}, {1}, {1}}, [][]int{{0}}},
		{[][]int{{1}, {2}, {128}}, [][]int{{1, 2}}, [][]int{{1, 2}, {2, 4}, {128, 29}}},
		{[][]int{{1, 0, 2}, {0, 1, 4}}, [][]int{{5, 6}, {7, 8}, {9, 10}}, [][]int{{5 ^ 18, 6 ^ 20}, {7 ^ 36, 8 ^ 40}}},
	}
	for _, c := range known {
		got, code := Mul(c.a, c.b)
		wantMatrix(t, "Mul", got, code, c.want, api.OK)
	}
}

func TestMulOfAllSides(t *testing.T) {
	s := &seed{1}
	for rows := 1; rows <= api.MaxSide; rows++ {
		for between := 1; between <= api.MaxSide; between++ {
			for columns := 1; columns <= api.MaxSide; columns++ {
				a, b := s.matrix(rows, between), s.matrix(between, columns)
				got, code := Mul(a, b)
				wantMatrix(t, "Mul", got, code, slowProduct(a, b), api.OK)
			}
		}
	}
}

func TestMulByOne(t *testing.T) {
	s := &seed{2}
	for rows := 1; rows <= api.MaxSide; rows++ {
		for columns := 1; columns <= api.MaxSide; columns++ {
			m := s.matrix(rows, columns)
			got, code := Mul(m, unit(columns))
			wantMatrix(t, "Mul by one", got, code, m, api.OK)
			got, code = Mul(unit(rows), m)
			wantMatrix(t, "Mul of one", got, code, m, api.OK)
		}
	}
}

func TestMulOfOtherSides(t *testing.T) {
	for columns := 1; columns <= api.MaxSide; columns++ {
		for rows := 1; rows <= api.MaxSide; rows++ {
			if columns == rows {
				continue
			}
			got, code := Mul(full(rows, columns, 1), full(rows, columns, 1))
			wantMatrix(t, "Mul", got, code, nil, api.ErrSize)
			got, code = Mul(full(1, columns, 1), full(rows, 1, 1))
			wantMatrix(t, "Mul", got, code, nil, api.ErrSize)
		}
	}
}

func TestApplyOfKnown(t *testing.T) {
	known := []struct {
		m       [][]int
		v, want []int
	}{
		{[][]int{{3}}, []int{7}, []int{9}},
		{[][]int{{1, 2}, {3, 4}}, []int{128, 1}, []int{130, 153}},
		{[][]int{{1, 2, 3}}, []int{1, 1, 1}, []int{0}},
		{[][]int{{1}, {2}, {128}}, []int{2}, []int{2, 4, 29}},
		{[][]int{{0, 1}, {1, 0}, {1, 1}}, []int{200, 77}, []int{77, 200, 133}},
		{[][]int{{255, 255}}, []int{0, 0}, []int{0}},
	}
	for _, c := range known {
		got, code := Apply(c.m, c.v)
		wantList(t, "Apply", got, code, c.want, api.OK)
	}
}

func TestApplyIsMulByAColumn(t *testing.T) {
	s := &seed{3}
	for rows := 1; rows <= api.MaxSide; rows++ {
		for columns := 1; columns <= api.MaxSide; columns++ {
			m, v := s.matrix(rows, columns), list(s, columns)
			product := slowProduct(m, made(columns, 1, func(row, _ int) int { return v[row] }))
			want := make([]int, rows)
			for i := range want {
				want[i] = product[i][0]
			}
			got, code := Apply(m, v)
			wantList(t, "Apply", got, code, want, api.OK)
		}
	}
}

func TestApplyOfAnotherLength(t *testing.T) {
	for columns := 1; columns <= api.MaxSide; columns++ {
		for _, n := range []int{0, 1, 2, 3, 7, 8, 9, 100} {
			if n == columns {
				continue
			}
			for _, rows := range []int{1, n, api.MaxSide} {
				if rows < 1 || rows > api.MaxSide {
					continue
				}
				got, code := Apply(full(rows, columns, 1), make([]int, n))
				wantList(t, "Apply", got, code, nil, api.ErrSize)
			}
		}
	}
	got, code := Apply(unit(2), nil)
	wantList(t, "Apply of nil", got, code, nil, api.ErrSize)
}

func TestApplyOfNoElement(t *testing.T) {
	for _, s := range strangers {
		for n := 1; n <= api.MaxSide+1; n++ {
			for place := range n {
				v := make([]int, n)
				v[place] = s
				for _, columns := range []int{1, 2, api.MaxSide} {
					got, code := Apply(full(3, columns, 1), v)
					wantList(t, "Apply", got, code, nil, api.ErrForm)
					got, code = Apply(full(3, columns, 0), v)
					wantList(t, "Apply of 0", got, code, nil, api.ErrForm)
				}
			}
		}
	}
}

// P2.3

func TestRankOfKnown(t *testing.T) {
	known := []struct {
		m    [][]int
		want int
	}{
		{[][]int{{0}}, 0},
		{[][]int{{1}}, 1},
		{[][]int{{255}}, 1},
		{[][]int{{0, 0, 0}}, 0},
		{[][]int{{0, 0, 7}}, 1},
		{[][]int{{0}, {0}, {7}}, 1},
		{[][]int{{5}, {6}, {7}}, 1},
		{[][]int{{1, 2}, {1, 2}}, 1},
		{[][]int{{1, 2}, {2, 4}, {0, 0}}, 1},
		{[][]int{{0, 0}, {0, 0}, {1, 2}}, 1},
		{[][]int{{1, 2}, {3, 4}}, 2},
		{[][]int{{1, 128}, {2, 29}}, 1},
		{[][]int{{1, 128}, {2, 255}}, 2},
		{[][]int{{0, 1}, {2, 0}}, 2},
		{[][]int{{0, 0, 1}, {0, 2, 0}, {3, 0, 0}}, 3},
		{[][]int{{0, 0, 1}, {0, 0, 2}, {3, 0, 0}}, 2},
		{[][]int{{1, 0, 1}, {0, 1, 1}, {1, 1, 0}}, 2},
		{[][]int{{1, 0, 1}, {0, 1, 1}, {1, 1, 1}}, 3},
		{[][]int{{1, 2, 3}, {4, 5, 6}, {1 ^ 4, 2 ^ 5, 3 ^ 6}}, 2},
		{[][]int{{1, 1, 0, 0}, {0, 0, 1, 1}, {1, 1, 1, 1}, {0, 0, 0, 0}}, 2},
		{[][]int{{0, 1, 2, 3}, {0, 2, 4, 6}}, 1},
		{[][]int{{0, 1, 2, 3}, {0, 0, 0, 6}}, 2},
		{[][]int{{1, 0}, {0, 1}, {1, 1}, {7, 9}, {0, 0}}, 2},
	}
	for _, c := range known {
		wantRank(t, c.m, c.want)
	}
}

func TestRankOfZeroAndOne(t *testing.T) {
	for rows := 1; rows <= api.MaxSide; rows++ {
		for columns := 1; columns <= api.MaxSide; columns++ {
			wantRank(t, full(rows, columns, 0), 0)
			wantRank(t, full(rows, columns, 9), 1)
			wantRank(t, made(rows, columns, func(row, column int) int {
				if row+column == columns-1 {
					return 7
				}
				return 0
			}), min(rows, columns))
		}
		wantRank(t, unit(rows), rows)
	}
}

// Matrices of few different elements, so that rows hang on each other often.
func TestRankAsOfDeterminants(t *testing.T) {
	s := &seed{4}
	count := make([]int, 5)
	for range 3000 {
		rows, columns := s.next()%4+1, s.next()%4+1
		kinds := s.next()%3 + 2
		m := made(rows, columns, func(int, int) int { return []int{0, 1, 2, 3}[s.next()%kinds] })
		want := slowRank(m)
		wantRank(t, m, want)
		count[want]++
	}
	for rank, n := range count {
		if n == 0 {
			t.Errorf("no matrix had rank %d", rank)
		}
	}
}

// The product of a tall and a flat matrix has no more rank than they have between them.
func TestRankOfProducts(t *testing.T) {
	s := &seed{5}
	powers := func(from, n, times int) [][]int {
		return made(n, times, func(row, column int) int { p, _ := gf.Pow(from+row, column); return p })
	}
	for rank := 1; rank <= api.MaxSide; rank++ {
		for rows := rank; rows <= api.MaxSide; rows++ {
			for columns := rank; columns <= api.MaxSide; columns++ {
				flat := powers(s.next()%100, columns, rank)
				turned := made(rank, columns, func(row, column int) int { return flat[column][row] })
				wantRank(t, slowProduct(powers(s.next()%100, rows, rank), turned), rank)
			}
		}
	}
}

func TestInvertOfKnown(t *testing.T) {
	known := []struct{ m, want [][]int }{
		{[][]int{{1}}, [][]int{{1}}},
		{[][]int{{2}}, [][]int{{142}}},
		{[][]int{{0, 1}, {2, 0}}, [][]int{{0, 142}, {1, 0}}},
		{[][]int{{1, 1}, {0, 1}}, [][]int{{1, 1}, {0, 1}}},
		{[][]int{{1, 0}, {7, 1}}, [][]int{{1, 0}, {7, 1}}},
		{[][]int{{2, 0}, {0, 3}}, [][]int{{142, 0}, {0, 244}}},
		{[][]int{{0, 1, 0}, {0, 0, 1}, {1, 0, 0}}, [][]int{{0, 0, 1}, {1, 0, 0}, {0, 1, 0}}},
		{[][]int{{1, 2, 3}, {0, 1, 4}, {0, 0, 1}}, [][]int{{1, 2, 8 ^ 3}, {0, 1, 4}, {0, 0, 1}}},
	}
	for _, c := range known {
		got, code := Invert(c.m)
		wantMatrix(t, "Invert", got, code, c.want, api.OK)
	}
}

// undone: Mul undoes what Invert makes of m, from both sides, and so does the product by its words.
func undone(t *testing.T, m [][]int) {
	t.Helper()
	inverse, code := Invert(m)
	if code != api.OK || len(inverse) != len(m) {
		t.Errorf("Invert %v: %v %d", m, inverse, code)
		return
	}
	got, code := Mul(m, inverse)
	wantMatrix(t, "m and its inverse", got, code, unit(len(m)), api.OK)
	got, code = Mul(inverse, m)
	wantMatrix(t, "its inverse and m", got, code, unit(len(m)), api.OK)
	if !same(slowProduct(m, inverse), unit(len(m))) {
		t.Errorf("Invert %v: %v is no inverse", m, inverse)
	}
	got, code = Invert(inverse)
	wantMatrix(t, "Invert twice", got, code, m, api.OK)
}

func TestInvertIsUndoneByMul(t *testing.T) {
	s := &seed{6}
	for n := 1; n <= api.MaxSide; n++ {
		found := 0
		for range 60 {
			m := s.matrix(n, n)
			rank, _ := Rank(m)
			if rank == n {
				undone(t, m)
				found++
			}
		}
		if found < 40 {
			t.Errorf("of side %d only %d were inverted", n, found)
		}
	}
}

func TestInvertWhereRowsChangePlaces(t *testing.T) {
	s := &seed{7}
	for n := 2; n <= api.MaxSide; n++ {
		for shift := range n {
			turned := made(n, n, func(row, column int) int {
				if (row+shift)%n == column {
					return row + 2
				}
				return 0
			})
			undone(t, turned)
			mirrored := made(n, n, func(row, column int) int {
				if (row+column+shift)%n == 0 {
					return row + 9
				}
				return 0
			})
			undone(t, mirrored)
		}
		undone(t, made(n, n, func(row, column int) int {
			if row+column < n-1 {
				return 0
			}
			return s.next() | 1
		}))
	}
}

// What comes of it: powers of elements that all differ.
func TestInvertOfPowers(t *testing.T) {
	for n := 1; n <= api.MaxSide; n++ {
		for _, from := range []int{0, 1, 2, 100, 248} {
			undone(t, made(n, n, func(row, column int) int { p, _ := gf.Pow(from+row, column); return p }))
			undone(t, made(n, n, func(row, column int) int { p, _ := gf.Pow(from+column, row); return p }))
		}
	}
}

func TestInvertOrNotAsByDeterminants(t *testing.T) {
	s := &seed{8}
	none := 0
	for range 2000 {
		n := s.next()%4 + 1
		kinds := s.next()%3 + 2
		m := made(n, n, func(int, int) int { return []int{0, 1, 2, 3}[s.next()%kinds] })
		if determinant(m) != 0 {
			undone(t, m)
			continue
		}
		none++
		got, code := Invert(m)
		wantMatrix(t, "Invert", got, code, nil, api.ErrZero)
	}
	if none < 100 {
		t.Errorf("only %d had no inverse", none)
	}
}

func TestInvertOfNotAsManyRows(t *testing.T) {
	for rows := 1; rows <= api.MaxSide; rows++ {
		for columns := 1; columns <= api.MaxSide; columns++ {
			if rows == columns {
				continue
			}
			for _, a := range []int{0, 1} { // of 0 alone there is no inverse either: ErrSize is named first
				got, code := Invert(full(rows, columns, a))
				wantMatrix(t, "Invert", got, code, nil, api.ErrSize)
			}
		}
	}
}

func TestInvertWhereThereIsNone(t *testing.T) {
	for n := 1; n <= api.MaxSide; n++ {
		got, code := Invert(full(n, n, 0))
		wantMatrix(t, "Invert of 0", got, code, nil, api.ErrZero)
		for i := range n {
			m := unit(n)
			m[i][i] = 0
			got, code := Invert(m)
			wantMatrix(t, "Invert without a 1", got, code, nil, api.ErrZero)
			m = unit(n)
			if i > 0 {
				m[i] = m[i-1]
				got, code := Invert(m)
				wantMatrix(t, "Invert of a row twice", got, code, nil, api.ErrZero)
			}
		}
	}
	got, code := Invert([][]int{{1, 2}, {2, 4}})
	wantMatrix(t, "Invert", got, code, nil, api.ErrZero)
	got, code = Invert([][]int{{1, 2, 3}, {4, 5, 6}, {1 ^ 4, 2 ^ 5, 3 ^ 6}})
	wantMatrix(t, "Invert of a row that is a sum", got, code, nil, api.ErrZero)
}

// What holds everywhere: what was handed in is as it was, and answers are new memory.

// roomy: m with spare room behind each row and behind the rows.
func roomy(m [][]int) [][]int {
	out := make([][]int, 0, len(m)+3)
	for _, row := range m {
		out = append(out, append(make([]int, 0, len(row)+20), row...))
	}
	for i := range out {
		spare := out[i][len(out[i]):cap(out[i])]
		for k := range spare {
			spare[k] = 1000 + k
		}
	}
	copy(out[len(out):cap(out)], [][]int{{1000}, {1001}, {1002}})
	return out
}

// whole: a copy of all that m has, spare room too.
func whole(m [][]int) [][]int {
	var out [][]int
	for _, row := range m[:cap(m)] {
		out = append(out, append([]int(nil), row[:cap(row)]...))
	}
	return out
}

// scribble: writes all over an answer, one list after the other; each must still be as it was told when its turn comes.
func scribble(t *testing.T, what string, m [][]int, want [][]int) {
	t.Helper()
	for i, row := range m {
		if !sameList(row, want[i]) {
			t.Errorf("%s: row %d shares memory with one ahead of it", what, i)
		}
		row = row[:cap(row)]
		for k := range row {
			row[k] = -7
		}
	}
}

func TestWhatIsHandedInIsKept(t *testing.T) {
	s := &seed{9}
	turned := [][]int{{0, 0, 1}, {0, 2, 0}, {3, 0, 0}}
	pairs := [][2][][]int{
		{turned, turned},
		{s.matrix(3, 3), s.matrix(3, 3)},
		{s.matrix(8, 8), s.matrix(8, 8)},
		{s.matrix(2, 5), s.matrix(5, 3)},
		{s.matrix(5, 2), s.matrix(2, 7)},
		{full(4, 4, 3), full(4, 4, 0)},
		{{{1, 300}}, {{1}}},
		{{{1, 2}}, {{1}}},
		{{{1}, {2, 3}}, {{}}},
	}
	for _, p := range pairs {
		a, b := roomy(p[0]), roomy(p[1])
		v := roomy([][]int{p[1][0]})
		wasA, wasB, wasV := whole(a), whole(b), whole(v)
		product, _ := Mul(a, b)
		wantProduct, _ := Mul(p[0], p[1])
		scribble(t, "Mul", product, wantProduct)
		inverse, _ := Invert(a)
		wantInverse, _ := Invert(p[0])
		scribble(t, "Invert", inverse, wantInverse)
		applied, _ := Apply(a, v[0])
		wantApplied, _ := Apply(p[0], p[1][0])
		scribble(t, "Apply", [][]int{applied}, [][]int{wantApplied})
		Rank(a)
		May(a)
		if !same(whole(a), wasA) || !same(whole(b), wasB) || !same(whole(v), wasV) {
			t.Errorf("%v and %v are not as they were", p[0], p[1])
		}
	}
}

func TestRowsThatShareMemory(t *testing.T) {
	row := []int{5, 6, 7, 8}
	twice := [][]int{row[:2], row[:2]}
	sliding := [][]int{row[:2], row[1:3]}
	wantRank(t, twice, 1)
	got, code := Invert(twice)
	wantMatrix(t, "Invert", got, code, nil, api.ErrZero)
	wantRank(t, sliding, 2)
	undone(t, sliding)
	got, code = Mul(sliding, sliding)
	wantMatrix(t, "Mul", got, code, slowProduct([][]int{{5, 6}, {6, 7}}, [][]int{{5, 6}, {6, 7}}), api.OK)
	sums, code := Apply(sliding, row[:2])
	wantList(t, "Apply", sums, code, []int{add(mul(5, 5), mul(6, 6)), add(mul(6, 5), mul(7, 6))}, api.OK)
	if !sameList(row, []int{5, 6, 7, 8}) {
		t.Errorf("the rows are not as they were: %v", row)
	}
}

func TestAnswersAreTheSameAgain(t *testing.T) {
	s := &seed{10}
	a, b := s.matrix(8, 8), s.matrix(8, 8)
	first, _ := Mul(a, b)
	inverse, _ := Invert(a)
	Mul(b, a)
	Invert(b)
	got, code := Mul(a, b)
	wantMatrix(t, "Mul again", got, code, first, api.OK)
	got, code = Invert(a)
	wantMatrix(t, "Invert again", got, code, inverse, api.OK)
}
