package comb

import (
	"fmt"
	"math"
	"slices"
	"testing"

	"quickset/api"
)

// Short names for the least and the greatest number there is.
const (
	least = math.MinInt64
	most  = math.MaxInt64
)

// noSet: numbers of things of which none are picked.
var noSet = []int{-1, -2, -12, -13, 13, 14, 24, 256, 1 << 31, 1 << 32, 1<<32 + 4, -1 << 32, 1 << 62, least, least + 1, most - 1, most}

// triangle: how many picks there are: those that have the last thing, and those that have it not.
func triangle() [api.MaxSet + 1][api.MaxSet + 1]int {
	var t [api.MaxSet + 1][api.MaxSet + 1]int
	for n := range t {
		t[n][0] = 1
		for k := 1; k <= n; k++ {
			t[n][k] = t[n-1][k-1] + t[n-1][k]
		}
	}
	return t
}

// slowAll: by the words of P5.1: of all sets of numbers below n those of k, sorted.
func slowAll(n, k int) [][]int {
	var l [][]int
	for bits := range 1 << n {
		var pick []int
		for a := range n {
			if bits>>a&1 == 1 {
				pick = append(pick, a)
			}
		}
		if len(pick) == k {
			l = append(l, pick)
		}
	}
	slices.SortFunc(l, slices.Compare[[]int])
	return l
}

// each: every n and k that may be.
func each(do func(n, k int)) {
	for n := range api.MaxSet + 1 {
		for k := range n + 1 {
			do(n, k)
		}
	}
}

// noCount: every n and k of some that Count refuses.
func noCount(do func(n, k int)) {
	for _, n := range noSet {
		for _, k := range append([]int{0, 1, 2, 12, n - 1, n, n + 1}, noSet...) {
			do(n, k)
		}
	}
	for n := range api.MaxSet + 1 {
		for _, k := range []int{-1, -2, -n - 1, n + 1, n + 2, 13, 1 << 32, 1<<32 + n, -1 << 32, 1 << 62, least, least + 1, most - 1, most} {
			do(n, k)
		}
	}
}

// wantNumber: is what a call answered as it should be?
func wantNumber(t *testing.T, what string, got int, code api.Errno, number int, errno api.Errno) {
	t.Helper()
	if got != number || code != errno {
		t.Errorf("%s: %d %d, want %d %d", what, got, code, number, errno)
	}
}

// wantPick: the same, of a pick.
func wantPick(t *testing.T, what string, got []int, code api.Errno, pick []int, errno api.Errno) {
	t.Helper()
	if !slices.Equal(got, pick) || code != errno {
		t.Errorf("%s: %v %d, want %v %d", what, got, code, pick, errno)
	}
}

// wantPicks: the same, of picks.
func wantPicks(t *testing.T, what string, got [][]int, code api.Errno, picks [][]int, errno api.Errno) {
	t.Helper()
	if !slices.EqualFunc(got, picks, slices.Equal[[]int]) || code != errno {
		t.Errorf("%s: %v %d, want %v %d", what, got, code, picks, errno)
	}
}

// P5.1

func TestCountOfKnown(t *testing.T) {
	known := []struct{ n, k, count int }{
		{0, 0, 1}, {1, 0, 1}, {1, 1, 1}, {2, 0, 1}, {2, 1, 2}, {2, 2, 1}, {3, 1, 3}, {3, 2, 3}, {4, 2, 6}, {5, 2, 10}, {5, 3, 10}, {6, 3, 20}, {8, 4, 70}, {8, 5, 56}, {11, 5, 462},
		{12, 0, 1}, {12, 1, 12}, {12, 2, 66}, {12, 3, 220}, {12, 4, 495}, {12, 5, 792}, {12, 6, 924}, {12, 7, 792}, {12, 8, 495}, {12, 9, 220}, {12, 10, 66}, {12, 11, 12}, {12, 12, 1},
	}
	for _, c := range known {
		got, code := Count(c.n, c.k)
		wantNumber(t, fmt.Sprint("Count ", c.n, c.k), got, code, c.count, api.OK)
	}
}

func TestCountOfEach(t *testing.T) {
	counts := triangle()
	each(func(n, k int) {
		got, code := Count(n, k)
		wantNumber(t, fmt.Sprint("Count ", n, k), got, code, counts[n][k], api.OK)
	})
}

func TestCountOfNoSuchNumbers(t *testing.T) {
	noCount(func(n, k int) {
		got, code := Count(n, k)
		wantNumber(t, fmt.Sprint("Count ", n, k), got, code, 0, api.ErrRange)
	})
}

func TestAllOfKnown(t *testing.T) {
	known := []struct {
		n, k  int
		picks [][]int
	}{
		{0, 0, [][]int{{}}},
		{1, 0, [][]int{{}}},
		{1, 1, [][]int{{0}}},
		{3, 1, [][]int{{0}, {1}, {2}}},
		{3, 3, [][]int{{0, 1, 2}}},
		{4, 2, [][]int{{0, 1}, {0, 2}, {0, 3}, {1, 2}, {1, 3}, {2, 3}}},
		{5, 3, [][]int{{0, 1, 2}, {0, 1, 3}, {0, 1, 4}, {0, 2, 3}, {0, 2, 4}, {0, 3, 4}, {1, 2, 3}, {1, 2, 4}, {1, 3, 4}, {2, 3, 4}}},
		{12, 0, [][]int{{}}},
		{12, 12, [][]int{{0, 1, 2, 3, 4, 5, 6, 7, 8, 9, 10, 11}}},
	}
	for _, c := range known {
		got, code := All(c.n, c.k)
		wantPicks(t, fmt.Sprint("All ", c.n, c.k), got, code, c.picks, api.OK)
	}
}

func TestAllOfEach(t *testing.T) {
	each(func(n, k int) {
		got, code := All(n, k)
		wantPicks(t, fmt.Sprint("All ", n, k), got, code, slowAll(n, k), api.OK)
		if count, _ := Count(n, k); len(got) != count {
			t.Errorf("All %d %d: %d picks, and Count tells %d", n, k, len(got), count)
		}
	})
}

func TestAllOfNoSuchNumbers(t *testing.T) {
	noCount(func(n, k int) {
		got, code := All(n, k)
		wantPicks(t, fmt.Sprint("All ", n, k), got, code, nil, api.ErrRange)
	})
}

// P5.2

func TestNumberOfKnown(t *testing.T) {
	known := []struct {
		n      int
		pick   []int
		number int
	}{
		{0, nil, 0}, {0, []int{}, 0}, {7, nil, 0}, {12, []int{}, 0}, {12, []int{5, 6}[:0], 0},
		{1, []int{0}, 0}, {3, []int{2}, 2}, {4, []int{0, 1}, 0}, {4, []int{1, 3}, 4}, {4, []int{2, 3}, 5},
		{5, []int{0, 2, 4}, 4}, {5, []int{1, 2, 3}, 6}, {12, []int{11}, 11}, {12, []int{10, 11}, 65},
		{12, []int{6, 7, 8, 9, 10, 11}, 923}, {12, []int{0, 1, 2, 3, 4, 11}, 6}, {12, []int{0, 7, 8, 9, 10, 11}, 461}, {12, []int{1, 2, 3, 4, 5, 6}, 462},
		{12, []int{0, 1, 2, 3, 4, 5, 6, 7, 8, 9, 10, 11}, 0},
	}
	for _, c := range known {
		got, code := Number(c.n, c.pick)
		wantNumber(t, fmt.Sprint("Number ", c.n, c.pick), got, code, c.number, api.OK)
		pick, code := At(c.n, len(c.pick), c.number)
		wantPick(t, fmt.Sprint("At ", c.n, len(c.pick), c.number), pick, code, c.pick, api.OK)
	}
}

func TestNumberIsThePlaceAndAtThePick(t *testing.T) {
	each(func(n, k int) {
		for place, pick := range slowAll(n, k) {
			number, code := Number(n, pick)
			wantNumber(t, fmt.Sprint("Number ", n, pick), number, code, place, api.OK)
			got, code := At(n, k, place)
			wantPick(t, fmt.Sprint("At ", n, k, place), got, code, pick, api.OK)
		}
	})
}

func TestNumberOfNoSet(t *testing.T) {
	picks := [][]int{
		nil, {}, {0}, {0, 1}, {3}, {12}, {13}, {0, 1, 2, 3, 4, 5, 6, 7, 8, 9, 10, 11, 12},
		{-1}, {3, 1}, {2, 2}, {least}, {most}, {most, least}, make([]int, 100), // no picks of any n: what is told is the n
	}
	for _, n := range noSet {
		for _, pick := range append(picks, []int{n}, []int{n - 1}) {
			got, code := Number(n, pick)
			wantNumber(t, fmt.Sprint("Number ", n, pick), got, code, 0, api.ErrRange)
		}
	}
}

func TestNumberOfNoPick(t *testing.T) {
	known := []struct {
		n    int
		pick []int
	}{
		{0, []int{0}}, {0, []int{-1}}, {1, []int{1}}, {1, []int{0, 0}}, {1, []int{0, 1}},
		{4, []int{4}}, {4, []int{-1}}, {4, []int{3, 1}}, {4, []int{1, 1}}, {4, []int{0, 1, 2, 4}}, {4, []int{-1, 0, 1}}, {4, []int{0, -1}}, {4, []int{0, 1, 2, 3, 4}}, {4, []int{0, 1, 2, 3, 3}}, {4, []int{0, 1, 3, 2}}, {4, []int{1, 0, 2, 3}}, {4, []int{0, 2, 2}}, {4, []int{0, 2, 1}},
		{12, []int{12}}, {12, []int{0, 12}}, {12, []int{11, 12}}, {12, []int{11, 11}}, {12, []int{11, 0}}, {12, []int{0, 1, 2, 3, 4, 5, 6, 7, 8, 9, 10, 11, 12}}, {12, []int{0, 0, 1, 2, 3, 4, 5, 6, 7, 8, 9, 10, 11}}, {12, []int{11, 10, 9, 8, 7, 6, 5, 4, 3, 2, 1, 0}},
		{12, []int{most}}, {12, []int{least}}, {12, []int{0, most}}, {12, []int{0, least}}, {12, []int{most, least}}, {12, []int{least, most}}, {12, []int{most, 0}}, {12, []int{most, most}}, {12, []int{least, 0, 1}}, {12, []int{1<<32 + 1}}, {12, []int{1 << 32, 1<<32 + 1}},
		{12, make([]int, 1000)}, {0, make([]int, 1000)},
	}
	for _, c := range known {
		got, code := Number(c.n, c.pick)
		wantNumber(t, fmt.Sprint("Number ", c.n, c.pick), got, code, 0, api.ErrForm)
	}
}

// All lists of up to four numbers from -1 to 5: those that stand in slowAll are picks, and no other.
func TestNumberOfEachShortList(t *testing.T) {
	var grow func(n int, list []int)
	grow = func(n int, list []int) {
		got, code := Number(n, list)
		place := slices.IndexFunc(slowAll(n, len(list)), func(pick []int) bool { return slices.Equal(pick, list) })
		if place >= 0 {
			wantNumber(t, fmt.Sprint("Number ", n, list), got, code, place, api.OK)
		} else {
			wantNumber(t, fmt.Sprint("Number ", n, list), got, code, 0, api.ErrForm)
		}
		for a := -1; a <= 5 && len(list) < 4; a++ {
			grow(n, append(slices.Clone(list), a))
		}
	}
	for n := range 5 {
		grow(n, nil)
	}
}

func TestAtOfNoSuchNumbers(t *testing.T) {
	noCount(func(n, k int) {
		for _, number := range []int{0, 1, -1, 923, least, most} {
			got, code := At(n, k, number)
			wantPick(t, fmt.Sprint("At ", n, k, number), got, code, nil, api.ErrRange)
		}
	})
}

func TestAtOfNoSuchPick(t *testing.T) {
	counts := triangle()
	each(func(n, k int) {
		count := counts[n][k]
		for _, number := range []int{-1, -2, -count, -count - 1, count, count + 1, 2 * count, 924, 1 << 32, 1<<32 + count - 1, -1 << 32, 1 << 62, least, least + 1, most - 1, most} {
			got, code := At(n, k, number)
			wantPick(t, fmt.Sprint("At ", n, k, number), got, code, nil, api.ErrRange)
		}
	})
}

// What holds everywhere.

func TestWhatIsHandedInIsAsItWas(t *testing.T) {
	lists := [][]int{{1, 3, 5, 7}, {3, 1, 5, 7}, {1, 1, 2, 2}, {-1, 0, 40, 9}, {0, 1, 2, 3}, {most, least, most, least}}
	for _, wide := range lists {
		was := slices.Clone(wide)
		for size := range len(wide) + 1 {
			for _, n := range []int{-1, 0, 4, 8, 12, 13} {
				pick := wide[:size]
				Number(n, pick)
				if !slices.Equal(wide, was) || len(pick) != size {
					t.Errorf("Number %d %v: now %v, and it was %v", n, was[:size], wide, was)
				}
			}
		}
	}
}

// Spare room that would make it another pick is no part of what was handed in.
func TestSpareRoomIsNotRead(t *testing.T) {
	wide := []int{1, 3, 2, 9}
	got, code := Number(4, wide[:2])
	wantNumber(t, "Number 4 [1 3]", got, code, 4, api.OK)
	got, code = Number(4, wide[:1])
	wantNumber(t, "Number 4 [1]", got, code, 1, api.OK)
}

// Each pick is filled with a number of its own, spare room too: where two shared memory, the first of them would show the other's.
func TestPicksShareNothing(t *testing.T) {
	each(func(n, k int) {
		first, _ := All(n, k)
		second, _ := All(n, k)
		third, _ := At(n, k, 0)
		lists := slices.Concat(first, second, [][]int{third})
		for mark, pick := range lists {
			pick = pick[:cap(pick)]
			for place := range pick {
				pick[place] = 100 + mark
			}
		}
		for mark, pick := range lists {
			for _, a := range pick[:cap(pick)] {
				if a != 100+mark {
					t.Fatalf("All %d %d and At: list %d has memory of list %d", n, k, mark, a-100)
				}
			}
		}
		clear(first[:cap(first)])
		if slices.ContainsFunc(second, func(pick []int) bool { return len(pick) != k }) {
			t.Errorf("All %d %d: two answers share their lists", n, k)
		}
		got, code := All(n, k)
		wantPicks(t, fmt.Sprint("All again ", n, k), got, code, slowAll(n, k), api.OK)
	})
}
