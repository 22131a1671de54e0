package geom

import (
	"fmt"
	"math"
	"slices"
	"testing"

	"quickset/api"
)

// Short names for the least and the greatest number there is.
const (
	least = math.MinInt64
	most  = math.MaxInt64
)

// Numbers at each limit, beyond it, and far from it.
func someDrives() []int {
	return []int{least, least + 1, -1 << 32, -8, -2, -1, 0, 1, 2, 3, 4, 5, 7, 8, 9, 10, 16, 1<<32 + 5, most - 1, most}
}

func someParities() []int {
	return []int{least, least + 1, -1 << 32, -3, -1, 0, 1, 2, 3, 4, 5, 7, 8, 9, 1<<32 + 1, most - 1, most}
}

func someCounts() []int {
	return []int{least, least + 1, -1 << 32, -32, -1, 0, 1, 2, 31, 32, 33, 34, 64, 1<<32 + 1, most - 1, most}
}

func someAddrs() []int {
	return []int{least, least + 1, -1 << 32, -65536, -2, -1, 0, 1, 2, 4096, 65535, 65536, 65537, 65538, 131072, 1 << 32, most - 1, most}
}

// isDrives, isParity, isCount and isAddr: by the words of P10.1.
func isDrives(drives int) bool {
	return slices.Contains([]int{2, 3, 4, 5, 6, 7, 8}, drives)
}

func isParity(drives, parity int) bool {
	return slices.Contains([]int{1, 2, 3}, parity) && parity < drives
}

func isCount(count int) bool {
	return 1 <= count && count <= 32
}

func isAddr(addr int) bool {
	return 0 <= addr && addr <= 65536
}

// each: every drives and parity that may be.
func each(do func(drives, parity int)) {
	for drives := 2; drives <= 8; drives++ {
		for parity := 1; parity <= min(3, drives-1); parity++ {
			do(drives, parity)
		}
	}
}

// wantCost: does a block take so many addresses?
func wantCost(t *testing.T, drives, parity, count, cost int, errno api.Errno) {
	t.Helper()
	got, code := Cost(drives, parity, count)
	if got != cost || code != errno {
		t.Errorf("Cost %d %d %d: %d %d, want %d %d", drives, parity, count, got, code, cost, errno)
	}
}

// wantSpot: is an address there?
func wantSpot(t *testing.T, drives, addr, drive, at int, errno api.Errno) {
	t.Helper()
	gotDrive, gotAt, code := Spot(drives, addr)
	if gotDrive != drive || gotAt != at || code != errno {
		t.Errorf("Spot %d %d: %d %d %d, want %d %d %d", drives, addr, gotDrive, gotAt, code, drive, at, errno)
	}
}

// wantColumns: has a block these columns?
func wantColumns(t *testing.T, drives, parity, addr, count int, columns []api.Column, errno api.Errno) {
	t.Helper()
	got, code := Columns(drives, parity, addr, count)
	if !slices.Equal(got, columns) || code != errno {
		t.Errorf("Columns %d %d %d %d: %v %d, want %v %d", drives, parity, addr, count, got, code, columns, errno)
	}
}

// slowCost: by the words of P10.2, by counting on.
func slowCost(drives, parity, count int) int {
	rows := 0
	for rows*(drives-parity) < count {
		rows++
	}
	cost := count + parity*rows
	for cost%(parity+1) != 0 {
		cost++
	}
	return cost
}

// slowSpot: by the words of P10.3: the address 0 is the first sector of the first drive, and from there it goes round, address by address.
func slowSpot(drives, addr int) (drive, at int) {
	for range addr {
		drive++
		if drive == drives {
			drive, at = 0, at+1
		}
	}
	return drive, at
}

// slowColumns: row by row, each of them parity sectors and as many data sectors as there are yet, up to those that make a row full. The first row says which columns there are, each row behind it is a sector more of some.
func slowColumns(drives, parity, addr, count int) []api.Column {
	var columns []api.Column
	for row := 0; count > 0; row++ {
		data := min(count, drives-parity)
		for c := range parity + data {
			if row == 0 {
				drive, at := slowSpot(drives, addr+c)
				columns = append(columns, api.Column{Drive: drive, At: at, Parity: c < parity})
			}
			columns[c].Count++
		}
		count -= data
	}
	return columns
}

// P10.1

func TestLimits(t *testing.T) {
	if api.MaxDrives != 8 || api.MaxParity != 3 || api.MaxSectors != 32 || api.MaxAddr != 65536 {
		t.Errorf("limits: %d %d %d %d", api.MaxDrives, api.MaxParity, api.MaxSectors, api.MaxAddr)
	}
}

func TestCostAtLimits(t *testing.T) {
	for _, drives := range someDrives() {
		for _, parity := range someParities() {
			for _, count := range someCounts() {
				if isDrives(drives) && isParity(drives, parity) && isCount(count) {
					wantCost(t, drives, parity, count, slowCost(drives, parity, count), api.OK)
				} else {
					wantCost(t, drives, parity, count, 0, api.ErrRange)
				}
			}
		}
	}
}

func TestSpotAtLimits(t *testing.T) {
	for _, drives := range someDrives() {
		for _, addr := range someAddrs() {
			if isDrives(drives) && isAddr(addr) {
				drive, at := slowSpot(drives, addr)
				wantSpot(t, drives, addr, drive, at, api.OK)
			} else {
				wantSpot(t, drives, addr, 0, 0, api.ErrRange)
			}
		}
	}
}

func TestColumnsAtLimits(t *testing.T) {
	for _, drives := range someDrives() {
		for _, parity := range someParities() {
			for _, addr := range someAddrs() {
				for _, count := range someCounts() {
					if isDrives(drives) && isParity(drives, parity) && isAddr(addr) && isCount(count) {
						wantColumns(t, drives, parity, addr, count, slowColumns(drives, parity, addr, count), api.OK)
					} else {
						wantColumns(t, drives, parity, addr, count, nil, api.ErrRange)
					}
				}
			}
		}
	}
}

// One number is beyond its limit, all others are within theirs.
func TestOneBeyond(t *testing.T) {
	for _, drives := range []int{least, -1, 0, 1, 9, most} {
		wantCost(t, drives, 1, 1, 0, api.ErrRange)
		wantSpot(t, drives, 1, 0, 0, api.ErrRange)
		wantColumns(t, drives, 1, 1, 1, nil, api.ErrRange)
	}
	for _, parity := range []int{least, -1, 0, 4, most} {
		wantCost(t, 8, parity, 1, 0, api.ErrRange)
		wantColumns(t, 8, parity, 1, 1, nil, api.ErrRange)
	}
	for _, drives := range []int{2, 3} { // as many parity columns as drives are, or more
		for parity := drives; parity <= 3; parity++ {
			wantCost(t, drives, parity, 1, 0, api.ErrRange)
			wantColumns(t, drives, parity, 1, 1, nil, api.ErrRange)
		}
	}
	for _, count := range []int{least, -1, 0, 33, most} {
		wantCost(t, 8, 3, count, 0, api.ErrRange)
		wantColumns(t, 8, 3, 1, count, nil, api.ErrRange)
	}
	for _, addr := range []int{least, -1, 65537, most} {
		wantSpot(t, 8, addr, 0, 0, api.ErrRange)
		wantColumns(t, 8, 3, addr, 1, nil, api.ErrRange)
	}
}

// P10.2

func TestCostOfKnown(t *testing.T) {
	known := []struct{ drives, parity, count, cost int }{
		{2, 1, 1, 2}, {2, 1, 2, 4}, {2, 1, 32, 64},
		{3, 1, 1, 2}, {3, 1, 2, 4}, {3, 1, 3, 6}, {3, 1, 4, 6}, {3, 2, 1, 3}, {3, 2, 32, 96},
		{4, 3, 1, 4}, {4, 3, 32, 128}, {4, 2, 3, 9},
		{5, 1, 8, 10}, {5, 2, 4, 9}, {5, 2, 3, 6}, {5, 1, 32, 40}, {5, 1, 31, 40}, {5, 1, 30, 38},
		{8, 1, 7, 8}, {8, 1, 32, 38}, {8, 2, 32, 45}, {8, 3, 1, 4}, {8, 3, 2, 8}, {8, 3, 5, 8}, {8, 3, 6, 12}, {8, 3, 32, 56},
	}
	for _, c := range known {
		wantCost(t, c.drives, c.parity, c.count, c.cost, api.OK)
	}
}

func TestCostOfEach(t *testing.T) {
	each(func(drives, parity int) {
		for count := 1; count <= api.MaxSectors; count++ {
			wantCost(t, drives, parity, count, slowCost(drives, parity, count), api.OK)
		}
	})
}

// A cost is a multiple of parity and one; it is no less than what the columns have together, and no whole multiple more.
func TestCostAndColumns(t *testing.T) {
	each(func(drives, parity int) {
		for count := 1; count <= api.MaxSectors; count++ {
			cost, code := Cost(drives, parity, count)
			columns, _ := Columns(drives, parity, 0, count)
			all := 0
			for _, c := range columns {
				all += c.Count
			}
			rows := columns[0].Count
			if code != api.OK || cost%(parity+1) != 0 || cost < count+parity*rows || cost < all || cost > all+parity {
				t.Errorf("Cost %d %d %d: %d %d, of %d in %d rows", drives, parity, count, cost, code, all, rows)
			}
		}
	})
}

// P10.3

func TestSpotOfKnown(t *testing.T) {
	known := []struct{ drives, addr, drive, at int }{
		{2, 0, 0, 0}, {2, 1, 1, 0}, {2, 2, 0, 1}, {2, 65535, 1, 32767}, {2, 65536, 0, 32768},
		{3, 2, 2, 0}, {3, 3, 0, 1}, {3, 65536, 1, 21845},
		{5, 4, 4, 0}, {5, 5, 0, 1}, {5, 13, 3, 2}, {5, 65536, 1, 13107},
		{7, 48, 6, 6}, {7, 49, 0, 7}, {7, 65536, 2, 9362},
		{8, 7, 7, 0}, {8, 8, 0, 1}, {8, 65535, 7, 8191}, {8, 65536, 0, 8192},
	}
	for _, c := range known {
		wantSpot(t, c.drives, c.addr, c.drive, c.at, api.OK)
	}
}

// All addresses of each number of drives, one by one, as they go round.
func TestSpotOfEach(t *testing.T) {
	for drives := 2; drives <= api.MaxDrives; drives++ {
		drive, at := 0, 0
		for addr := range api.MaxAddr + 1 {
			wantSpot(t, drives, addr, drive, at, api.OK)
			drive++
			if drive == drives {
				drive, at = 0, at+1
			}
		}
	}
}

// No two addresses have one spot; an address is drives times the sector, and the drive.
func TestSpotsDiffer(t *testing.T) {
	type place struct{ drive, at int }
	for drives := 2; drives <= api.MaxDrives; drives++ {
		seen := map[place]int{}
		for addr := range api.MaxAddr + 1 {
			drive, at, code := Spot(drives, addr)
			if code != api.OK || drive < 0 || drive >= drives || at < 0 || drives*at+drive != addr {
				t.Fatalf("Spot %d %d: %d %d %d", drives, addr, drive, at, code)
			}
			if other, twice := seen[place{drive, at}]; twice {
				t.Fatalf("Spot %d: %d and %d are both %d %d", drives, other, addr, drive, at)
			}
			seen[place{drive, at}] = addr
		}
	}
}

// P10.4

// Short names for columns.
func par(drive, at, count int) api.Column {
	return api.Column{Drive: drive, At: at, Count: count, Parity: true}
}

func dat(drive, at, count int) api.Column {
	return api.Column{Drive: drive, At: at, Count: count}
}

func TestColumnsOfKnown(t *testing.T) {
	known := []struct {
		drives, parity, addr, count int
		columns                     []api.Column
	}{
		{2, 1, 0, 1, []api.Column{par(0, 0, 1), dat(1, 0, 1)}},
		{2, 1, 3, 32, []api.Column{par(1, 1, 32), dat(0, 2, 32)}},
		{3, 1, 65536, 4, []api.Column{par(1, 21845, 2), dat(2, 21845, 2), dat(0, 21846, 2)}},
		{4, 1, 2, 7, []api.Column{par(2, 0, 3), dat(3, 0, 3), dat(0, 1, 2), dat(1, 1, 2)}},
		{4, 3, 1, 5, []api.Column{par(1, 0, 5), par(2, 0, 5), par(3, 0, 5), dat(0, 1, 5)}},
		{5, 1, 13, 6, []api.Column{par(3, 2, 2), dat(4, 2, 2), dat(0, 3, 2), dat(1, 3, 1), dat(2, 3, 1)}},
		{5, 2, 4, 2, []api.Column{par(4, 0, 1), par(0, 1, 1), dat(1, 1, 1), dat(2, 1, 1)}},
		{5, 2, 65536, 1, []api.Column{par(1, 13107, 1), par(2, 13107, 1), dat(3, 13107, 1)}},
		{8, 3, 6, 2, []api.Column{par(6, 0, 1), par(7, 0, 1), par(0, 1, 1), dat(1, 1, 1), dat(2, 1, 1)}},
		{8, 3, 0, 5, []api.Column{par(0, 0, 1), par(1, 0, 1), par(2, 0, 1), dat(3, 0, 1), dat(4, 0, 1), dat(5, 0, 1), dat(6, 0, 1), dat(7, 0, 1)}},
		{8, 3, 65536, 32, []api.Column{par(0, 8192, 7), par(1, 8192, 7), par(2, 8192, 7), dat(3, 8192, 7), dat(4, 8192, 7), dat(5, 8192, 6), dat(6, 8192, 6), dat(7, 8192, 6)}},
		{8, 1, 65535, 8, []api.Column{par(7, 8191, 2), dat(0, 8192, 2), dat(1, 8192, 1), dat(2, 8192, 1), dat(3, 8192, 1), dat(4, 8192, 1), dat(5, 8192, 1), dat(6, 8192, 1)}},
	}
	for _, c := range known {
		wantColumns(t, c.drives, c.parity, c.addr, c.count, c.columns, api.OK)
	}
}

// blocks: every block of some addresses: the first ones, so that the round of the drives ends at each place within it, some between, and the last ones.
func blocks(do func(drives, parity, addr, count int)) {
	addrs := []int{30000, 30001, 30002, 30003, 65528, 65529, 65534, 65535, 65536}
	for addr := range 17 {
		addrs = append(addrs, addr)
	}
	each(func(drives, parity int) {
		for _, addr := range addrs {
			for count := 1; count <= api.MaxSectors; count++ {
				do(drives, parity, addr, count)
			}
		}
	})
}

func TestColumnsOfEach(t *testing.T) {
	blocks(func(drives, parity, addr, count int) {
		wantColumns(t, drives, parity, addr, count, slowColumns(drives, parity, addr, count), api.OK)
	})
}

// Where w goes no time into count there are count and parity columns, of one sector; else as many as drives.
func TestHowManyColumns(t *testing.T) {
	blocks(func(drives, parity, addr, count int) {
		columns, _ := Columns(drives, parity, addr, count)
		if want := min(count+parity, drives); len(columns) != want {
			t.Errorf("Columns %d %d %d %d: %d columns, want %d", drives, parity, addr, count, len(columns), want)
		}
		few := count < drives-parity
		if few && slices.ContainsFunc(columns, func(c api.Column) bool { return c.Count != 1 }) {
			t.Errorf("Columns %d %d %d %d: %v, want one sector each", drives, parity, addr, count, columns)
		}
	})
}

// The parity columns stand first, as many as parity, and are as long as any; all others together have the data.
func TestParityFirst(t *testing.T) {
	blocks(func(drives, parity, addr, count int) {
		columns, _ := Columns(drives, parity, addr, count)
		data := 0
		for i, c := range columns {
			if c.Parity != (i < parity) || c.Count < 1 || c.Count > columns[0].Count || c.Parity && c.Count != columns[0].Count {
				t.Errorf("Columns %d %d %d %d: column %d of %v", drives, parity, addr, count, i, columns)
			}
			if !c.Parity {
				data += c.Count
			}
		}
		if data != count {
			t.Errorf("Columns %d %d %d %d: %d data sectors in %v", drives, parity, addr, count, data, columns)
		}
	})
}

// No two columns are on one drive; together they are just the addresses from addr on, without a gap.
func TestColumnsWithoutGap(t *testing.T) {
	blocks(func(drives, parity, addr, count int) {
		columns, _ := Columns(drives, parity, addr, count)
		var on, all []int
		for _, c := range columns {
			on = append(on, c.Drive)
			for i := range c.Count {
				all = append(all, drives*(c.At+i)+c.Drive)
			}
		}
		slices.Sort(on)
		if len(slices.Compact(on)) != len(columns) || on[0] < 0 || on[len(on)-1] >= drives {
			t.Errorf("Columns %d %d %d %d: not a drive each: %v", drives, parity, addr, count, columns)
		}
		slices.Sort(all)
		for i, a := range all {
			if a != addr+i {
				t.Errorf("Columns %d %d %d %d: %v lie at %v", drives, parity, addr, count, columns, all)
				break
			}
		}
	})
}

// As far as there are such addresses, a column begins where Spot tells.
func TestColumnsBeginAtSpots(t *testing.T) {
	blocks(func(drives, parity, addr, count int) {
		columns, _ := Columns(drives, parity, addr, count)
		for i, c := range columns {
			if addr+i <= api.MaxAddr {
				wantSpot(t, drives, addr+i, c.Drive, c.At, api.OK)
			}
		}
	})
}

// What holds everywhere

// spoil: makes a list, and its spare room, other columns.
func spoil(l []api.Column) {
	l = l[:cap(l)]
	for i := range l {
		l[i] = api.Column{Drive: 99, At: 98, Count: 97, Parity: true}
	}
}

func TestColumnsAreNew(t *testing.T) {
	each(func(drives, parity int) {
		for count := 1; count <= api.MaxSectors; count++ {
			first, _ := Columns(drives, parity, 7, count)
			second, _ := Columns(drives, parity, 7, count)
			were := slices.Clone(second)
			spoil(first)
			if !slices.Equal(second, were) {
				t.Errorf("Columns %d %d 7 %d: two answers share memory", drives, parity, count)
			}
			wantColumns(t, drives, parity, 7, count, were, api.OK)
		}
	})
}

// What a call answers does not hang on the calls ahead of it.
func TestNothingIsKept(t *testing.T) {
	tell := func() string {
		cost, costCode := Cost(5, 2, 4)
		drive, at, spotCode := Spot(5, 13)
		columns, code := Columns(5, 1, 13, 6)
		return fmt.Sprint(cost, costCode, drive, at, spotCode, columns, code)
	}
	was := tell()
	Cost(8, 3, 32)
	Cost(0, 0, 0)
	Spot(2, 65536)
	Spot(2, -1)
	Columns(8, 3, 65536, 32)
	Columns(most, least, most, least)
	if is := tell(); is != was {
		t.Errorf("told %s, and then %s", was, is)
	}
}
