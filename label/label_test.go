package label

import (
	"bytes"
	"math"
	"slices"
	"testing"

	"quickset/api"
	"quickset/flet"
)

// Short names for the least and the greatest number there is.
const (
	least = math.MinInt64
	most  = math.MaxInt64
)

// seed: numbers that look like chance, the same ones in each run.
type seed uint64

// next: the next number, of all that there are.
func (s *seed) next() int {
	*s = *s*6364136223846793005 + 1442695040888963407
	high := uint64(*s) >> 32
	*s = *s*6364136223846793005 + 1442695040888963407
	return int(high<<32 | uint64(*s)>>32)
}

// below: the next number, from 0 on below n.
func (s *seed) below(n int) int {
	return int(uint64(s.next())>>1) % n
}

// Fields of a label, as a sector has them one behind the other; and how many bytes each has.
const (
	pool = iota
	driveNo
	drives
	parity
	when
	addr
	count
	size
	birth
	sumA
	sumB
	sumC
	sumD
	fields
)

// name: of a field.
func name(field int) string {
	return []string{"Pool", "Drive", "Drives", "Parity", "Time", "Addr", "Count", "Bytes", "Birth", "A", "B", "C", "D"}[field]
}

// at: where the bytes of a field begin, and ahead of which place they end.
func at(field int) (int, int) {
	if field < sumA {
		return 4 * field, 4*field + 4
	}
	return 36 + 8*(field-sumA), 44 + 8*(field-sumA)
}

// made: the label with these numbers.
func made(n [fields]int) api.Label {
	return api.Label{
		Pool: n[pool], Drive: n[driveNo], Drives: n[drives], Parity: n[parity], Time: n[when],
		Root: api.Pointer{
			Addr: n[addr], Count: n[count], Bytes: n[size], Birth: n[birth],
			Sum: api.Sum{A: n[sumA], B: n[sumB], C: n[sumC], D: n[sumD]},
		},
	}
}

// with: the label with these numbers, but that of one field.
func with(n [fields]int, field, value int) api.Label {
	n[field] = value
	return made(n)
}

// some: numbers of a label that may be, none of which is at a limit.
func some() [fields]int {
	return [fields]int{77, 2, 6, 2, 5000, 300, 7, 801, 4001, 1 << 40, -5, 12, 0x0102030405060708}
}

// numbersOf: the numbers of a label.
func numbersOf(x api.Label) [fields]int {
	return [fields]int{x.Pool, x.Drive, x.Drives, x.Parity, x.Time, x.Root.Addr, x.Root.Count, x.Root.Bytes, x.Root.Birth, x.Root.Sum.A, x.Root.Sum.B, x.Root.Sum.C, x.Root.Sum.D}
}

// limits: the least and the greatest number that a field may have beside the others, by the words of P8.1.
func limits(n [fields]int, field int) (int, int) {
	switch field {
	case pool:
		return 1, 1048576
	case driveNo:
		return 0, n[drives] - 1
	case drives:
		return max(2, n[driveNo]+1, n[parity]+1), 8
	case parity:
		return 1, min(3, n[drives]-1)
	case when:
		return max(0, n[birth]), 1048576
	case addr:
		return 0, 65536
	case count:
		return (n[size] + 127) / 128, 32
	case size:
		return 0, n[count] * 128
	case birth:
		return 0, n[when]
	}
	return least, most
}

// chance: numbers of a label that may be; now and then one of them is at a limit.
func (s *seed) chance() [fields]int {
	var n [fields]int
	for _, field := range []int{pool, when, addr, count, sumA, sumB, sumC, sumD} {
		low, high := limits(n, field)
		n[field] = s.from(low, high)
	}
	n[drives] = s.from(2, 8)
	for _, field := range []int{driveNo, parity, size, birth} {
		low, high := limits(n, field)
		n[field] = s.from(low, high)
	}
	return n
}

// from: a number from low to high.
func (s *seed) from(low, high int) int {
	switch s.below(4) {
	case 0:
		return low
	case 1:
		return high
	}
	if low == least && high == most {
		return s.next()
	}
	return low + s.below(high-low+1)
}

// sealed: bytes with the sum of all of them behind, word by word by the words of P4.1.
func sealed(b []byte) []byte {
	var sumA, sumB, sumC, sumD uint64
	for i := 0; i < len(b); i += 4 {
		word := uint64(b[i]) + uint64(b[i+1])*256 + uint64(b[i+2])*65536 + uint64(b[i+3])*16777216
		sumA += word
		sumB += sumA
		sumC += sumB
		sumD += sumC
	}
	all := slices.Clone(b)
	for _, n := range []uint64{sumA, sumB, sumC, sumD} {
		for range 8 {
			all = append(all, byte(n%256))
			n /= 256
		}
	}
	return all
}

// sector: with these numbers, may they be or not, by the words of P8.2. Of a number that has four bytes the lowest four are told.
func sector(n [fields]int) []byte {
	var b []byte
	for field, v := range n {
		from, to := at(field)
		left := uint64(v)
		for range to - from {
			b = append(b, byte(left%256))
			left /= 256
		}
	}
	return sealed(append(b, make([]byte, 96-len(b))...))
}

// wantNo: does Decode refuse a sector so?
func wantNo(t *testing.T, what string, b []byte, errno api.Errno) {
	t.Helper()
	was := slices.Clone(b)
	x, code := Decode(b)
	if code != errno || x != (api.Label{}) {
		t.Errorf("Decode %s: %v %d, want no label and %d", what, x, code, errno)
	}
	if !bytes.Equal(was, b) {
		t.Errorf("Decode %s changed the sector", what)
	}
}

// wantYes: does Decode find a label in a sector?
func wantYes(t *testing.T, what string, b []byte, x api.Label) {
	t.Helper()
	was := slices.Clone(b)
	if got, code := Decode(b); code != api.OK || got != x {
		t.Errorf("Decode %s: %v %d, want %v", what, got, code, x)
	}
	if !bytes.Equal(was, b) {
		t.Errorf("Decode %s changed the sector", what)
	}
}

// P8.1

func TestMay(t *testing.T) {
	n := some()
	if !May(made(n)) {
		t.Fatalf("May %v: false", n)
	}
	for field := range fields {
		low, high := limits(n, field)
		for _, v := range []int{low, high, low + (high/2 - low/2)} {
			if !May(with(n, field, v)) {
				t.Errorf("May with %s %d: false", name(field), v)
			}
		}
		if field >= sumA {
			continue
		}
		for _, v := range []int{low - 1, high + 1, least, least + 1, -1 << 32, -1, most - 1, most, high + 1<<32, high + 1<<56} {
			if May(with(n, field, v)) {
				t.Errorf("May with %s %d: true", name(field), v)
			}
		}
	}
}

// The limits as numbers, since a field's limits may hang on another one.
func TestMayTable(t *testing.T) {
	for _, c := range []struct {
		field, value int
		may          bool
	}{
		{pool, 0, false}, {pool, 1, true}, {pool, 1048576, true}, {pool, 1048577, false},
		{drives, 2, false}, {drives, 3, true}, {drives, 8, true}, {drives, 9, false},
		{driveNo, -1, false}, {driveNo, 0, true}, {driveNo, 5, true}, {driveNo, 6, false}, {driveNo, 7, false},
		{parity, 0, false}, {parity, 1, true}, {parity, 3, true}, {parity, 4, false}, {parity, 5, false},
		{when, 4000, false}, {when, 4001, true}, {when, 1048576, true}, {when, 1048577, false},
		{addr, -1, false}, {addr, 0, true}, {addr, 65536, true}, {addr, 65537, false},
		{count, 6, false}, {count, 7, true}, {count, 32, true}, {count, 33, false},
		{size, -1, false}, {size, 0, true}, {size, 896, true}, {size, 897, false},
		{birth, -1, false}, {birth, 0, true}, {birth, 5000, true}, {birth, 5001, false},
		{sumA, least, true}, {sumA, most, true}, {sumB, least, true}, {sumB, most, true},
		{sumC, least, true}, {sumC, most, true}, {sumD, least, true}, {sumD, most, true},
	} {
		if x := with(some(), c.field, c.value); May(x) != c.may {
			t.Errorf("May with %s %d: %v", name(c.field), c.value, !c.may)
		}
	}
}

// Drives, Drive and Parity beside each other: all of them, some beyond each limit.
func TestMayDrives(t *testing.T) {
	for d := -2; d <= 12; d++ {
		for one := -2; one <= 12; one++ {
			for p := -2; p <= 12; p++ {
				n := some()
				n[drives], n[driveNo], n[parity] = d, one, p
				want := 2 <= d && d <= 8 && 0 <= one && one < d && 1 <= p && p <= 3 && p < d
				if May(made(n)) != want {
					t.Errorf("May with Drives %d, Drive %d, Parity %d: %v", d, one, p, !want)
				}
			}
		}
	}
}

// Count and Bytes, Time and Birth beside each other: about each limit.
func TestMayRoot(t *testing.T) {
	for c := -2; c <= 35; c++ {
		for _, b := range []int{least, -129, -128, -1, 0, 1, c*128 - 1, c * 128, c*128 + 1, 32 * 128, 33 * 128, most} {
			n := some()
			n[count], n[size] = c, b
			want := 0 <= c && c <= 32 && 0 <= b && b <= c*128
			if May(made(n)) != want {
				t.Errorf("May with Count %d, Bytes %d: %v", c, b, !want)
			}
		}
	}
	for _, w := range []int{least, -2, -1, 0, 1, 2, 1048575, 1048576, 1048577, most} {
		for _, b := range []int{least, -2, -1, 0, 1, 2, 1048575, 1048576, 1048577, most} {
			n := some()
			n[when], n[birth] = w, b
			want := 0 <= w && w <= 1048576 && 0 <= b && b <= w
			if May(made(n)) != want {
				t.Errorf("May with Time %d, Birth %d: %v", w, b, !want)
			}
		}
	}
}

// A product of Count and SectorSize that wraps round is no room for bytes.
func TestMayWraps(t *testing.T) {
	for _, c := range []int{1 << 57, 1<<57 + 1, 1<<58 + 32, least + 7, most, 1<<32 + 7} {
		for _, b := range []int{0, 1, 128, 896} {
			n := some()
			n[count], n[size] = c, b
			if May(made(n)) {
				t.Errorf("May with Count %d, Bytes %d: true", c, b)
			}
		}
	}
}

func TestMayExtremes(t *testing.T) {
	for _, v := range []int{least, -1, 0, most} {
		var n [fields]int
		for field := range n {
			n[field] = v
		}
		if May(made(n)) {
			t.Errorf("May with %d in each field: true", v)
		}
	}
	if !May(api.Label{Pool: 1, Drives: 2, Parity: 1}) {
		t.Error("May of the least label: false")
	}
	if !May(made([fields]int{1048576, 7, 8, 3, 1048576, 65536, 32, 4096, 1048576, most, most, most, most})) {
		t.Error("May of the greatest label: false")
	}
}

// P8.2

func TestEncodeKnown(t *testing.T) {
	x := api.Label{Pool: 1, Drive: 2, Drives: 4, Parity: 3, Time: 0x80706, Root: api.Pointer{
		Addr: 0x809, Count: 10, Bytes: 0x40b, Birth: 0x10e0d,
		Sum: api.Sum{A: 0x0102030405060708, B: -1, C: -2, D: least},
	}}
	want := sealed(append([]byte{
		1, 0, 0, 0,
		2, 0, 0, 0,
		4, 0, 0, 0,
		3, 0, 0, 0,
		6, 7, 8, 0,
		9, 8, 0, 0,
		10, 0, 0, 0,
		11, 4, 0, 0,
		13, 14, 1, 0,
		8, 7, 6, 5, 4, 3, 2, 1,
		255, 255, 255, 255, 255, 255, 255, 255,
		254, 255, 255, 255, 255, 255, 255, 255,
		0, 0, 0, 0, 0, 0, 0, 128,
	}, make([]byte, 28)...))
	b, code := Encode(x)
	if code != api.OK || !bytes.Equal(b, want) {
		t.Errorf("Encode: %v %d, want %v", b, code, want)
	}
	if len(b) != 128 || api.SectorSize != 128 {
		t.Errorf("Encode: %d bytes", len(b))
	}
}

// The seal as it is told, number by number: of the least label only three words are not 0.
func TestEncodeSeal(t *testing.T) {
	b, code := Encode(api.Label{Pool: 1, Drives: 2, Parity: 1})
	if code != api.OK || len(b) != 128 {
		t.Fatalf("Encode: %v %d", b, code)
	}
	// Of a word with m words behind it: it stands once in A, m+1 times in B, (m+1)(m+2)/2 times in C, (m+1)(m+2)(m+3)/6 times in D.
	var want [4]int
	for _, w := range []struct{ word, behind int }{{1, 23}, {2, 21}, {1, 20}} {
		m := w.behind
		want[0] += w.word
		want[1] += w.word * (m + 1)
		want[2] += w.word * (m + 1) * (m + 2) / 2
		want[3] += w.word * (m + 1) * (m + 2) * (m + 3) / 6
	}
	for i, n := range want {
		for k := range 8 {
			if got := b[96+8*i+k]; got != byte(n>>(8*k)) {
				t.Errorf("Encode: number %d of the seal, byte %d: %d, want that of %d", i, k, got, n)
			}
		}
	}
	sum, code := flet.Of(b[:96])
	if (sum != api.Sum{A: want[0], B: want[1], C: want[2], D: want[3]}) || code != api.OK {
		t.Errorf("flet.Of: %v, want %v", sum, want)
	}
}

// Each field at its place: where it changes, no byte changes but its own and the seal's.
func TestEncodePlaces(t *testing.T) {
	n := some()
	base, _ := Encode(made(n))
	for field := range fields {
		low, high := limits(n, field)
		for _, v := range []int{low, high, low + 1, high - 1} {
			x := with(n, field, v)
			if !May(x) {
				continue
			}
			b, code := Encode(x)
			if code != api.OK || len(b) != 128 {
				t.Errorf("Encode with %s %d: %v %d", name(field), v, b, code)
				continue
			}
			from, to := at(field)
			for i := range 96 {
				want := base[i]
				if from <= i && i < to {
					want = byte(uint64(v) >> (8 * (i - from)))
				}
				if b[i] != want {
					t.Errorf("Encode with %s %d: byte %d is %d, want %d", name(field), v, i, b[i], want)
				}
			}
			if !bytes.Equal(b, sealed(b[:96])) {
				t.Errorf("Encode with %s %d: the seal is %v", name(field), v, b[96:])
			}
		}
	}
}

func TestEncodeRefuses(t *testing.T) {
	n := some()
	for field := range sumA {
		low, high := limits(n, field)
		for _, v := range []int{low - 1, high + 1, least, -1, most, high + 1<<32} {
			if b, code := Encode(with(n, field, v)); len(b) != 0 || code != api.ErrForm {
				t.Errorf("Encode with %s %d: %v %d", name(field), v, b, code)
			}
		}
	}
	if b, code := Encode(api.Label{}); len(b) != 0 || code != api.ErrForm {
		t.Errorf("Encode of nothing: %v %d", b, code)
	}
}

func TestEncodeNew(t *testing.T) {
	x := made(some())
	a, _ := Encode(x)
	was := slices.Clone(a)
	clear(a[:cap(a)])
	if b, _ := Encode(x); !bytes.Equal(b, was) {
		t.Errorf("Encode again: %v, want %v", b, was)
	}
}

// P8.2 and P8.3

func TestBackAndForth(t *testing.T) {
	s := seed(1)
	for range 20000 {
		n := s.chance()
		x := made(n)
		b, code := Encode(x)
		if code != api.OK || !bytes.Equal(b, sector(n)) {
			t.Fatalf("Encode %v: %v %d, want %v", x, b, code, sector(n))
		}
		wantYes(t, "of what Encode told", b, x)
	}
}

// P8.3

func TestDecodeSize(t *testing.T) {
	b := sector(some())
	long := append(slices.Clone(b), b...)
	for n := range 257 {
		if n != 128 {
			wantNo(t, "of a wrong size", long[:n], api.ErrSize)
		}
	}
	wantNo(t, "of nil", nil, api.ErrSize)
	wantNo(t, "of a sector and a byte 0", append(slices.Clone(b), 0), api.ErrSize)
	wantNo(t, "of a sector without its first byte", b[1:], api.ErrSize)
	wantYes(t, "of a sector with spare room", long[:128], made(some()))
}

func TestDecodeSum(t *testing.T) {
	b := sector(some())
	for i := range b {
		for _, change := range []byte{1, 128, 255} {
			c := slices.Clone(b)
			c[i] ^= change
			wantNo(t, "of a changed byte", c, api.ErrSum)
		}
	}
	for i := 96; i < 128; i += 8 {
		c := slices.Clone(b)
		clear(c[i : i+8])
		wantNo(t, "of a number of the seal that is 0", c, api.ErrSum)
	}
	c := slices.Clone(b)
	copy(c[96:104], b[104:112])
	copy(c[104:112], b[96:104])
	wantNo(t, "of a seal out of order", c, api.ErrSum)
	wantNo(t, "of bytes 255", bytes.Repeat([]byte{255}, 128), api.ErrSum)
}

func TestDecodeForm(t *testing.T) {
	wantNo(t, "of bytes 0, the sum of which is 0", make([]byte, 128), api.ErrForm)
	n := some()
	for field := range sumA {
		low, high := limits(n, field)
		for _, v := range []int{low - 1, high + 1, 1<<31 - 1, 1 << 31, 1<<32 - 1, -1} {
			m := n
			m[field] = v
			wantNo(t, "with "+name(field)+" beyond a limit", sector(m), api.ErrForm)
		}
		for _, v := range []int{low, high} {
			m := n
			m[field] = v
			wantYes(t, "with "+name(field)+" at a limit", sector(m), made(m))
		}
	}
	for field := sumA; field < fields; field++ {
		for _, v := range []int{least, least + 1, -1, 0, 1, most} {
			m := n
			m[field] = v
			wantYes(t, "with a part of the sum", sector(m), made(m))
		}
	}
}

// Each byte between, and each bit of it; the seal is right.
func TestDecodeBetween(t *testing.T) {
	b := sector(some())
	for i := 68; i < 96; i++ {
		for bit := range 8 {
			c := slices.Clone(b[:96])
			c[i] = 1 << bit
			wantNo(t, "with a byte between", sealed(c), api.ErrForm)
		}
	}
}

func TestDecodeFirst(t *testing.T) {
	bad := sector(some())
	bad[0]++
	wantNo(t, "of a wrong size and seal", bad[:127], api.ErrSize)
	wantNo(t, "of a wrong size and form", make([]byte, 127), api.ErrSize)
	wantNo(t, "of a wrong size and form", make([]byte, 129), api.ErrSize)
	none := make([]byte, 128)
	none[127] = 1
	wantNo(t, "of a wrong seal and form", none, api.ErrSum)
	between := sector(some())
	between[70] = 1
	wantNo(t, "of a wrong seal and a byte between", between, api.ErrSum)
}

// Sectors with a right seal about the limits of several fields at once.
func TestDecodeChance(t *testing.T) {
	s := seed(2)
	for range 20000 {
		n := s.chance()
		for range s.below(3) {
			field := s.below(sumA)
			low, high := limits(n, field)
			n[field] = []int{low - 1, low, high, high + 1}[s.below(4)]
		}
		b := sector(n)
		if May(made(n)) {
			wantYes(t, "of a label that may be", b, made(n))
		} else {
			wantNo(t, "of a label that may not be", b, api.ErrForm)
		}
	}
}

// P8.4

// wantBest: is this the best label, and its place?
func wantBest(t *testing.T, what string, l [][]byte, x api.Label, place int, errno api.Errno) {
	t.Helper()
	var was [][]byte
	for _, b := range l {
		was = append(was, slices.Clone(b))
	}
	got, i, code := Best(l)
	if got != x || i != place || code != errno {
		t.Errorf("Best %s: %v %d %d, want %v %d %d", what, got, i, code, x, place, errno)
	}
	if !slices.EqualFunc(was, l, bytes.Equal) {
		t.Errorf("Best %s changed the sectors", what)
	}
}

// timed: the label of a drive at a time, and its sector.
func timed(drive, time int) (api.Label, []byte) {
	n := some()
	n[driveNo], n[when], n[birth] = drive, time, 0
	return made(n), sector(n)
}

func TestBestNone(t *testing.T) {
	_, b := timed(0, 9)
	torn := slices.Clone(b)
	torn[20]++
	no := sector([fields]int{1, 2, 2, 1})
	wantBest(t, "of nil", nil, api.Label{}, 0, api.ErrNone)
	wantBest(t, "of no sectors", [][]byte{}, api.Label{}, 0, api.ErrNone)
	wantBest(t, "of no bytes", [][]byte{nil, {}}, api.Label{}, 0, api.ErrNone)
	wantBest(t, "of no labels", [][]byte{torn, no, b[:127], make([]byte, 128), append(slices.Clone(b), 0)}, api.Label{}, 0, api.ErrNone)
}

func TestBest(t *testing.T) {
	x0, b0 := timed(0, 0)
	x7, b7 := timed(1, 7)
	y7, c7 := timed(2, 7)
	x8, b8 := timed(0, 8)
	xm, bm := timed(3, 1048576)
	wantBest(t, "of one", [][]byte{b7}, x7, 0, api.OK)
	wantBest(t, "of one at time 0", [][]byte{b0}, x0, 0, api.OK)
	wantBest(t, "of one at time 0 behind none", [][]byte{nil, nil, b0}, x0, 2, api.OK)
	wantBest(t, "ascending", [][]byte{b0, b7, b8}, x8, 2, api.OK)
	wantBest(t, "descending", [][]byte{b8, b7, b0}, x8, 0, api.OK)
	wantBest(t, "in the middle", [][]byte{b0, b8, b7}, x8, 1, api.OK)
	wantBest(t, "the first of two", [][]byte{b0, b7, c7}, x7, 1, api.OK)
	wantBest(t, "the first of two", [][]byte{b0, c7, b7}, y7, 1, api.OK)
	wantBest(t, "the first of many", [][]byte{b0, b0, b0}, x0, 0, api.OK)
	wantBest(t, "at the greatest time", [][]byte{b8, bm, b7, bm}, xm, 1, api.OK)
}

// What is no label is passed by, be its time as great as it may.
func TestBestPasses(t *testing.T) {
	x, b := timed(0, 7)
	y, c := timed(1, 8)
	n := some()
	n[when] = 1048577
	late := sector(n)
	_, torn := timed(1, 9)
	torn[127]++
	_, between := timed(1, 9)
	between = slices.Clone(between[:96])
	between[95] = 1
	between = sealed(between)
	_, long := timed(1, 9)
	for _, no := range [][]byte{late, torn, between, append(long, 0), long[:127], nil} {
		wantBest(t, "behind", [][]byte{no, b}, x, 1, api.OK)
		wantBest(t, "ahead", [][]byte{b, no}, x, 0, api.OK)
		wantBest(t, "between", [][]byte{no, b, no, c, no}, y, 3, api.OK)
		wantBest(t, "alone", [][]byte{no}, api.Label{}, 0, api.ErrNone)
	}
}

// Against a walk through all of them.
func TestBestChance(t *testing.T) {
	s := seed(3)
	for range 3000 {
		var l [][]byte
		var best api.Label
		place, code := 0, api.ErrNone
		for i := range s.below(7) {
			x, b := timed(s.below(6), s.below(4))
			if s.below(3) == 0 {
				b[s.below(128)] ^= byte(1 + s.below(255))
			} else if code != api.OK || x.Time > best.Time {
				best, place, code = x, i, api.OK
			}
			l = append(l, b)
		}
		wantBest(t, "of some", l, best, place, code)
	}
}

// What holds everywhere: whatever the bytes are, a call ends; a label that is found tells the very sector.
func TestWhateverBytes(t *testing.T) {
	s := seed(4)
	for range 20000 {
		b := make([]byte, []int{0, 1, 96, 127, 128, 129}[s.below(6)])
		for i := range b {
			b[i] = byte(s.below(256) & s.below(256) & s.below(256))
		}
		if x, code := Decode(b); code == api.OK {
			t.Errorf("Decode %v: %v", b, x)
		}
		if len(b) != 128 {
			continue
		}
		c := sealed(b[:96])
		x, code := Decode(c)
		if code == api.OK && !bytes.Equal(sector(numbersOf(x)), c) {
			t.Errorf("Decode %v: %v", c, x)
		}
	}
}
