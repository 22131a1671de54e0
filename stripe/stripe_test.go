package stripe

import (
	"bytes"
	"fmt"
	"math"
	"slices"
	"testing"

	"quickset/api"
	"quickset/flet"
	"quickset/gf"
	"quickset/par"
)

// Short names for the least and the greatest number there is.
const (
	least = math.MinInt64
	most  = math.MaxInt64
)

// seed: a row of numbers that looks like chance and is the same in every run.
type seed struct{ now uint64 }

func (s *seed) bytes(n int) []byte {
	b := make([]byte, n)
	for i := range b {
		s.now = s.now*6364136223846793005 + 1442695040888963407
		b[i] = byte(s.now >> 40)
	}
	return b
}

// Numbers at each limit, beyond it, and far from it.
func someDrives() []int {
	return []int{least, -1 << 32, -8, -2, -1, 0, 1, 2, 3, 4, 5, 8, 9, 10, 16, 1<<32 + 5, most}
}

func someParities() []int {
	return []int{least, -1 << 32, -3, -1, 0, 1, 2, 3, 4, 5, 7, 8, 9, 1<<32 + 1, most}
}

func someAddrs() []int {
	return []int{least, -1 << 32, -65536, -1, 0, 1, 2, 4096, 65535, 65536, 65537, 131072, 1 << 32, most}
}

func someNoSizes() []int {
	return []int{least, least + 1, -1 << 32, -4096, -128, -2, -1, 0, 4097, 4098, 4224, 8192, 65536, 1 << 32, 1<<32 + 1, most - 127, most - 126, most - 1, most}
}

// may: by the words of P10.1.
func may(drives, parity, addr int) bool {
	return 2 <= drives && drives <= 8 && 1 <= parity && parity <= 3 && parity < drives && 0 <= addr && addr <= 65536
}

// each: every drives and parity that may be.
func each(do func(drives, parity int)) {
	for drives := 2; drives <= 8; drives++ {
		for parity := 1; parity <= min(3, drives-1); parity++ {
			do(drives, parity)
		}
	}
}

// eachSize: sizes of data on so many drives: rows that are full and that are not, sectors that are and that are not.
func eachSize(drives, parity int, do func(size int)) {
	wide := drives - parity
	counts := []int{1, 2, wide - 1, wide, wide + 1, 2*wide - 1, 2 * wide, 2*wide + 1, 31, 32}
	slices.Sort(counts)
	for _, count := range slices.Compact(counts) {
		if count < 1 || count > 32 {
			continue
		}
		for _, less := range []int{0, 1, 4, 127} {
			do(count*128 - less)
		}
	}
}

// subsets: of n places those sets that have from low to high of them, the smaller ones first, each ascending, in their order.
func subsets(n, low, high int) [][]int {
	var l [][]int
	for bits := range 1 << n {
		set := []int{}
		for place := range n {
			if bits>>place&1 == 1 {
				set = append(set, place)
			}
		}
		if low <= len(set) && len(set) <= high {
			l = append(l, set)
		}
	}
	slices.SortFunc(l, func(a, b []int) int {
		if len(a) != len(b) {
			return len(a) - len(b)
		}
		return slices.Compare(a, b)
	})
	return l
}

// padded: data filled up with bytes 0 to whole sectors.
func padded(data []byte) []byte {
	b := append([]byte{}, data...)
	for len(b)%128 != 0 {
		b = append(b, 0)
	}
	return b
}

// sumOf: of data, filled up to whole sectors.
func sumOf(data []byte) api.Sum {
	s, _ := flet.Of(padded(data))
	return s
}

// heights: how many sectors each column has, by P10.4: sectors are dealt out row by row.
func heights(drives, parity, size int) []int {
	var l []int
	for count := (size + 127) / 128; count > 0; {
		data := min(count, drives-parity)
		for c := range parity + data {
			if c == len(l) {
				l = append(l, 0)
			}
			l[c]++
		}
		count -= data
	}
	return l
}

// slowLay: by the words of P11.1, byte by byte.
func slowLay(drives, parity int, data []byte) [][]byte {
	sizes := heights(drives, parity, len(data))
	l := make([][]byte, len(sizes))
	rest := padded(data)
	for c := parity; c < len(l); c++ {
		l[c] = append([]byte{}, rest[:sizes[c]*128]...)
		rest = rest[sizes[c]*128:]
	}
	for j := range parity {
		for place := range sizes[j] * 128 {
			l[j] = append(l[j], slowParity(l[parity:], j, place))
		}
	}
	return l
}

// slowParity: what stands at a place of the parity column j. Behind the end of a data column there are bytes 0.
func slowParity(data [][]byte, j, place int) byte {
	sum := 0
	for i, column := range data {
		if place >= len(column) {
			continue
		}
		f, _ := gf.Exp(j * i)
		p, _ := gf.Mul(f, int(column[place]))
		sum ^= p
	}
	return byte(sum)
}

// pieces: columns as they are read if all is well.
func pieces(l [][]byte) []api.Piece {
	out := make([]api.Piece, len(l))
	for i, column := range l {
		out[i].Data = append([]byte{}, column...)
	}
	return out
}

// harmed: the pieces, those at some places lost, and others wrong, from their first byte on.
func harmed(l []api.Piece, lost, wrong []int) []api.Piece {
	out := slices.Clone(l)
	for _, place := range lost {
		out[place] = api.Piece{Lost: true}
	}
	for k, place := range wrong {
		out[place].Data = slices.Clone(l[place].Data)
		for i := range out[place].Data {
			out[place].Data[i] ^= byte(i%7 + 17*k + 1)
		}
	}
	return out
}

// wantColumns: did Lay answer as it should?
func wantColumns(t *testing.T, what string, got [][]byte, code api.Errno, columns [][]byte, errno api.Errno) {
	t.Helper()
	if !slices.EqualFunc(got, columns, bytes.Equal) || code != errno {
		t.Fatalf("%s: %v %d, want %v %d", what, got, code, columns, errno)
	}
}

// wantData: did Gather answer as it should?
func wantData(t *testing.T, what string, got []byte, bad []int, code api.Errno, data []byte, places []int, errno api.Errno) {
	t.Helper()
	if !bytes.Equal(got, data) || !slices.Equal(bad, places) || code != errno {
		t.Fatalf("%s: %d bytes (right: %v) %v %d, want %d bytes %v %d", what, len(got), bytes.Equal(got, data), bad, code, len(data), places, errno)
	}
}

// P11.1

// wall: a column by hand: so many sectors, each of one byte throughout.
func wall(values ...byte) []byte {
	var l []byte
	for _, v := range values {
		l = append(l, bytes.Repeat([]byte{v}, 128)...)
	}
	return l
}

// sector: one by hand: these bytes first, then bytes 0.
func sector(b ...byte) []byte {
	return append(b, make([]byte, 128-len(b))...)
}

func TestLayByHand(t *testing.T) {
	known := []struct {
		drives, parity int
		data           []byte
		columns        [][]byte
	}{
		// One byte, and sectors on one data column.
		{2, 1, []byte{5}, [][]byte{sector(5), sector(5)}},
		{8, 3, []byte{5}, [][]byte{sector(5), sector(5), sector(5), sector(5)}},
		{2, 1, wall(1, 2, 3), [][]byte{wall(1, 2, 3), wall(1, 2, 3)}},
		{4, 3, wall(1, 2), [][]byte{wall(1, 2), wall(1, 2), wall(1, 2), wall(1, 2)}},
		// Fewer sectors than data columns, then as many.
		{6, 2, wall(1, 2, 3), [][]byte{wall(0), wall(1 ^ 4 ^ 12), wall(1), wall(2), wall(3)}},
		{6, 2, wall(1, 2, 3, 4), [][]byte{wall(4), wall(1 ^ 4 ^ 12 ^ 32), wall(1), wall(2), wall(3), wall(4)}},
		// A row that is not full, and one that is.
		{5, 3, wall(1, 2, 3), [][]byte{wall(1^3, 2), wall(1^6, 2), wall(1^12, 2), wall(1, 2), wall(3)}},
		{5, 3, wall(1, 2, 3, 4), [][]byte{wall(1^3, 2^4), wall(1^6, 2^8), wall(1^12, 2^16), wall(1, 2), wall(3, 4)}},
		{4, 1, wall(1, 2, 3, 4), [][]byte{wall(1^3^4, 2), wall(1, 2), wall(3), wall(4)}},
		{4, 1, wall(1, 2, 3, 4, 5), [][]byte{wall(1^3^5, 2^4), wall(1, 2), wall(3, 4), wall(5)}},
		// A product that wraps round the field.
		{4, 2, append(wall(7, 0), wall(200)...), [][]byte{wall(7^200, 0), wall(7^141, 0), wall(7, 0), wall(200)}},
		// Data that end within a sector.
		{3, 1, append(wall(9), 1, 2), [][]byte{append([]byte{8, 11}, wall(9)[2:]...), wall(9), sector(1, 2)}},
		{4, 1, append(wall(9, 8), 1, 2), [][]byte{append([]byte{0, 3}, wall(9 ^ 8)[2:]...), wall(9), wall(8), sector(1, 2)}},
		{4, 2, append(wall(9, 8), 3), [][]byte{append(append([]byte{10}, wall(9)[1:]...), wall(8)...), append(append([]byte{15}, wall(9)[1:]...), wall(8)...), wall(9, 8), sector(3)}},
	}
	for _, c := range known {
		for _, addr := range []int{0, 1, 9, 65536} {
			got, code := Lay(c.drives, c.parity, addr, c.data)
			wantColumns(t, fmt.Sprint("Lay ", c.drives, c.parity, addr, len(c.data)), got, code, c.columns, api.OK)
		}
	}
}

func TestLayOfEach(t *testing.T) {
	s := &seed{1}
	each(func(drives, parity int) {
		for count := 1; count <= 32; count++ {
			for _, less := range []int{0, 1, 127} {
				data := s.bytes(count*128 - less)
				got, code := Lay(drives, parity, count, data)
				wantColumns(t, fmt.Sprint("Lay ", drives, parity, len(data)), got, code, slowLay(drives, parity, data), api.OK)
			}
		}
	})
}

// Whatever the address, the columns are the same.
func TestLayAtEachAddress(t *testing.T) {
	s := &seed{2}
	each(func(drives, parity int) {
		data := s.bytes((drives+1)*128 - 60)
		columns := slowLay(drives, parity, data)
		for _, addr := range []int{0, 1, 2, 3, 4, 5, 6, 7, 8, 4096, 65535, 65536} {
			got, code := Lay(drives, parity, addr, data)
			wantColumns(t, fmt.Sprint("Lay ", drives, parity, addr), got, code, columns, api.OK)
		}
	})
}

func TestLayRefusesSizes(t *testing.T) {
	for _, n := range []int{0, 4097, 4098, 4224, 5000, 8192, 1 << 20} {
		for _, data := range [][]byte{make([]byte, n), make([]byte, n, n+200)} {
			got, code := Lay(4, 2, 9, data)
			wantColumns(t, fmt.Sprint("Lay of ", n), got, code, nil, api.ErrSize)
		}
	}
	got, code := Lay(4, 2, 9, nil)
	wantColumns(t, "Lay of nil", got, code, nil, api.ErrSize)
	each(func(drives, parity int) {
		for _, n := range []int{1, 4095, 4096} {
			got, code := Lay(drives, parity, 0, make([]byte, n))
			wantColumns(t, fmt.Sprint("Lay ", drives, parity, n), got, code, slowLay(drives, parity, make([]byte, n)), api.OK)
		}
	})
}

func TestLayAtLimits(t *testing.T) {
	data := (&seed{3}).bytes(333)
	for _, drives := range someDrives() {
		for _, parity := range someParities() {
			for _, addr := range someAddrs() {
				what := fmt.Sprint("Lay ", drives, parity, addr)
				got, code := Lay(drives, parity, addr, data)
				if may(drives, parity, addr) {
					wantColumns(t, what, got, code, slowLay(drives, parity, data), api.OK)
					continue
				}
				wantColumns(t, what, got, code, nil, api.ErrRange)
				for _, n := range []int{0, 4097} { // what is wrong with the size is told first
					got, code = Lay(drives, parity, addr, make([]byte, n))
					wantColumns(t, what, got, code, nil, api.ErrSize)
				}
			}
		}
	}
}

// roomy: bytes with spare room behind them.
func roomy(b []byte) []byte {
	wide := append(append(make([]byte, 0, len(b)+200), b...), bytes.Repeat([]byte{171}, 200)...)
	return wide[:len(b)]
}

// memory: a copy of all that bytes have, spare room too.
func memory(b []byte) []byte {
	return append([]byte{}, b[:cap(b)]...)
}

// scribble: writes all over columns, spare room too. None of what is written may come into another one.
func scribble(t *testing.T, what string, l [][]byte) {
	t.Helper()
	var were [][]byte
	for _, column := range l {
		were = append(were, memory(column))
	}
	for _, column := range l {
		column = column[:cap(column)]
		for k := range column {
			column[k] ^= 85
		}
	}
	for i, column := range l {
		for k, b := range column[:cap(column)] {
			if b != were[i][k]^85 {
				t.Fatalf("%s: column %d shares room with another one", what, i)
			}
		}
	}
	clear(l[:cap(l)])
}

func TestLayLeavesTheData(t *testing.T) {
	s := &seed{4}
	each(func(drives, parity int) {
		eachSize(drives, parity, func(size int) {
			data := roomy(s.bytes(size))
			was := memory(data)
			columns := slowLay(drives, parity, data)
			got, code := Lay(drives, parity, 3, data)
			what := fmt.Sprint("Lay ", drives, parity, size)
			wantColumns(t, what, got, code, columns, api.OK)
			again, _ := Lay(drives, parity, 3, data)
			scribble(t, what, got)
			if !bytes.Equal(memory(data), was) {
				t.Fatalf("%s: the data are not as they were", what)
			}
			wantColumns(t, what+", which was answered ahead of that,", again, api.OK, columns, api.OK)
		})
	})
}

// P11.2

func TestGatherOfEachLost(t *testing.T) {
	s := &seed{5}
	each(func(drives, parity int) {
		eachSize(drives, parity, func(size int) {
			data := s.bytes(size)
			l := pieces(slowLay(drives, parity, data))
			for _, lost := range subsets(len(l), 0, parity+1) {
				what := fmt.Sprint("Gather ", drives, parity, size, " lost ", lost)
				got, bad, code := Gather(drives, parity, 7, size, harmed(l, lost, nil), sumOf(data))
				if len(lost) <= parity {
					wantData(t, what, got, bad, code, data, nil, api.OK)
				} else {
					wantData(t, what, got, bad, code, nil, nil, api.ErrLost)
				}
			}
		})
	})
}

func TestGatherOfWhatLayTold(t *testing.T) {
	s := &seed{6}
	each(func(drives, parity int) {
		for count := 1; count <= 32; count++ {
			data := s.bytes(count*128 - count)
			l, _ := Lay(drives, parity, 65536-count, data)
			got, bad, code := Gather(drives, parity, 65536-count, len(data), pieces(l), sumOf(data))
			wantData(t, fmt.Sprint("Gather ", drives, parity, count), got, bad, code, data, nil, api.OK)
		}
	})
}

// Each size of a sector's data is told as it was asked for.
func TestGatherOfEachSize(t *testing.T) {
	data := (&seed{7}).bytes(384)
	for size := 257; size <= 384; size++ {
		l := pieces(slowLay(4, 2, data[:size]))
		got, bad, code := Gather(4, 2, 0, size, l, sumOf(data[:size]))
		wantData(t, fmt.Sprint("Gather ", size), got, bad, code, data[:size], nil, api.OK)
	}
}

func TestGatherOfAllLost(t *testing.T) {
	each(func(drives, parity int) {
		for _, size := range []int{1, 4096} {
			data := make([]byte, size)
			l := pieces(slowLay(drives, parity, data))
			for n := range l {
				l[n] = api.Piece{Lost: true}
			}
			got, bad, code := Gather(drives, parity, 0, size, l, sumOf(data))
			wantData(t, fmt.Sprint("Gather ", drives, parity, size), got, bad, code, nil, nil, api.ErrLost)
		}
	})
}

// hopeless: pieces that are too few, too many or lost, and some that are right for a block of 300 bytes on 4 drives.
func hopeless() [][]api.Piece {
	return [][]api.Piece{nil, {}, {{}}, make([]api.Piece, 4), make([]api.Piece, 100), {{Lost: true}, {Lost: true}, {Lost: true}, {Lost: true}}, pieces(slowLay(4, 2, make([]byte, 300)))}
}

func TestGatherRefusesSizes(t *testing.T) {
	for _, size := range someNoSizes() {
		for _, l := range hopeless() {
			got, bad, code := Gather(4, 2, 9, size, l, api.Sum{})
			wantData(t, fmt.Sprint("Gather of ", size), got, bad, code, nil, nil, api.ErrSize)
			got, bad, code = Gather(4, 4, -1, size, l, api.Sum{A: 1}) // ahead of ErrRange
			wantData(t, fmt.Sprint("Gather of ", size), got, bad, code, nil, nil, api.ErrSize)
		}
	}
	each(func(drives, parity int) {
		for _, size := range []int{1, 2, 4095, 4096} {
			data := make([]byte, size)
			got, bad, code := Gather(drives, parity, 0, size, pieces(slowLay(drives, parity, data)), api.Sum{})
			wantData(t, fmt.Sprint("Gather ", drives, parity, size), got, bad, code, data, nil, api.OK)
		}
	})
}

func TestGatherAtLimits(t *testing.T) {
	data := (&seed{8}).bytes(333)
	for _, drives := range someDrives() {
		for _, parity := range someParities() {
			for _, addr := range someAddrs() {
				what := fmt.Sprint("Gather ", drives, parity, addr)
				if may(drives, parity, addr) {
					got, bad, code := Gather(drives, parity, addr, 333, pieces(slowLay(drives, parity, data)), sumOf(data))
					wantData(t, what, got, bad, code, data, nil, api.OK)
					continue
				}
				for _, l := range hopeless() { // what is wrong with the pieces is not told
					got, bad, code := Gather(drives, parity, addr, 333, l, sumOf(data))
					wantData(t, what, got, bad, code, nil, nil, api.ErrRange)
				}
			}
		}
	}
}

func TestGatherRefusesTheNumberOfPieces(t *testing.T) {
	each(func(drives, parity int) {
		for _, size := range []int{1, 129, 128 * drives, 4096} {
			data := (&seed{9}).bytes(size)
			l := pieces(slowLay(drives, parity, data))
			first := l[0]
			for _, other := range [][]api.Piece{
				nil, {}, l[:1], l[1:], l[:len(l)-1],
				append(slices.Clone(l), first), append([]api.Piece{first}, l...), append(slices.Clone(l), api.Piece{}), append(slices.Clone(l), api.Piece{Lost: true}),
				make([]api.Piece, 1000),
			} {
				for range 2 { // as they are, and then all lost: ErrForm stands ahead of ErrLost
					got, bad, code := Gather(drives, parity, 0, size, other, sumOf(data))
					wantData(t, fmt.Sprint("Gather ", drives, parity, size, " of ", len(other)), got, bad, code, nil, nil, api.ErrForm)
					other = slices.Clone(other)
					for i := range other {
						other[i].Lost = true
					}
				}
			}
		}
	})
}

// otherLengths: lists that are not of a length.
func otherLengths(n int) [][]byte {
	return [][]byte{nil, {}, make([]byte, 1), make([]byte, n-128), make([]byte, n-1), make([]byte, n-1, n), make([]byte, n+1), make([]byte, n+128), make([]byte, 5000)}
}

func TestGatherOfPiecesOfOtherLengths(t *testing.T) {
	each(func(drives, parity int) {
		for _, size := range []int{1, 129, 128 * drives, 4096} {
			data := (&seed{10}).bytes(size)
			whole := pieces(slowLay(drives, parity, data))
			for place, p := range whole {
				for _, other := range otherLengths(len(p.Data)) {
					what := fmt.Sprint("Gather ", drives, parity, size, " piece ", place, " of ", len(other))
					l := slices.Clone(whole)
					l[place].Data = other
					got, bad, code := Gather(drives, parity, 0, size, l, sumOf(data))
					wantData(t, what, got, bad, code, nil, nil, api.ErrForm)
					l[place].Lost = true
					got, bad, code = Gather(drives, parity, 0, size, l, sumOf(data))
					wantData(t, what+", lost", got, bad, code, data, nil, api.OK)
				}
			}
		}
	})
}

// What a lost piece has is not looked at, whatever it is.
func TestGatherOfLostPiecesWithData(t *testing.T) {
	s := &seed{11}
	each(func(drives, parity int) {
		data := s.bytes(128*drives - 5)
		whole := pieces(slowLay(drives, parity, data))
		for _, lost := range subsets(len(whole), parity, parity) {
			for _, n := range []int{0, 1, 128, 256, 5000} {
				l := slices.Clone(whole)
				for _, place := range lost {
					l[place] = api.Piece{Lost: true, Data: s.bytes(n)}
				}
				got, bad, code := Gather(drives, parity, 0, len(data), l, sumOf(data))
				wantData(t, fmt.Sprint("Gather ", drives, parity, " lost ", lost, " of ", n), got, bad, code, data, nil, api.OK)
			}
		}
	})
}

// A piece that has not its sectors is told ahead of too many that are lost, and these ahead of a sum that nothing has.
func TestGatherTellsTheFirst(t *testing.T) {
	each(func(drives, parity int) {
		data := (&seed{12}).bytes(128*drives + 5)
		whole := pieces(slowLay(drives, parity, data))
		for _, lost := range subsets(len(whole), parity+1, parity+2) {
			for place := range whole {
				l := harmed(whole, lost, nil)
				errno := api.ErrLost
				if !l[place].Lost {
					errno = api.ErrForm
				}
				l[place].Data = l[place].Data[:max(0, len(l[place].Data)-1)]
				got, bad, code := Gather(drives, parity, 0, len(data), l, api.Sum{A: 1})
				wantData(t, fmt.Sprint("Gather ", drives, parity, " lost ", lost, " short ", place), got, bad, code, nil, nil, errno)
			}
		}
	})
}

// roomyPieces: pieces with spare room behind each one, and behind the list.
func roomyPieces(l []api.Piece) []api.Piece {
	out := make([]api.Piece, 0, len(l)+2)
	for _, p := range l {
		out = append(out, api.Piece{Lost: p.Lost, Data: roomy(p.Data)})
	}
	copy(out[len(out):cap(out)], []api.Piece{{Lost: true}, {Data: []byte{1}}})
	return out
}

// memoryOf: a copy of all that pieces have, spare room too, as a text.
func memoryOf(l []api.Piece) string {
	text := ""
	for _, p := range l[:cap(l)] {
		text += fmt.Sprint(p.Lost, p.Data[:cap(p.Data)])
	}
	return text
}

func TestGatherLeavesThePieces(t *testing.T) {
	s := &seed{13}
	each(func(drives, parity int) {
		for _, size := range []int{1, 128, 128*drives - 3} {
			data := s.bytes(size)
			whole := pieces(slowLay(drives, parity, data))
			for _, harm := range subsets(len(whole), 0, 2) {
				half := len(harm) / 2
				l := roomyPieces(harmed(whole, harm[:half], harm[half:]))
				for _, place := range harm[:half] {
					l[place].Data = roomy(s.bytes(len(whole[place].Data)))
				}
				was := memoryOf(l)
				what := fmt.Sprint("Gather ", drives, parity, size, harm)
				got, bad, code := Gather(drives, parity, 1, size, l, sumOf(data))
				told, places := slices.Clone(got), slices.Clone(bad)
				again, badAgain, codeAgain := Gather(drives, parity, 1, size, l, sumOf(data))
				got, bad = got[:cap(got)], bad[:cap(bad)]
				for i := range got {
					got[i] ^= 85
				}
				for i := range bad {
					bad[i] = -7
				}
				if memoryOf(l) != was {
					t.Fatalf("%s: the pieces are not as they were", what)
				}
				wantData(t, what+" again", again, badAgain, codeAgain, told, places, code)
			}
		}
	})
}

// P11.3

// heals: are the data of harmed columns right once some are taken as bad? No data column that is wrong may be left, and none of the parity columns that are used, the first ones that are left, may be wrong.
func heals(columns, parity int, gone, wrong []int) bool {
	missing := 0
	for place := parity; place < columns; place++ {
		if slices.Contains(gone, place) {
			missing++
		} else if slices.Contains(wrong, place) {
			return false
		}
	}
	for place := 0; missing > 0; place++ {
		if slices.Contains(gone, place) {
			continue
		}
		if slices.Contains(wrong, place) {
			return false
		}
		missing--
	}
	return true
}

// expected: which columns are told as bad, and whether any are.
func expected(columns, parity int, lost, wrong []int) ([]int, bool) {
	for _, bad := range subsets(columns, 0, parity-len(lost)) {
		if !slices.ContainsFunc(bad, func(place int) bool { return slices.Contains(lost, place) }) && heals(columns, parity, slices.Concat(lost, bad), wrong) {
			return bad, true
		}
	}
	return nil, false
}

// Every choice of lost columns and of wrong ones, up to one more than parity in all.
func TestGatherOfEachWrong(t *testing.T) {
	s := &seed{14}
	each(func(drives, parity int) {
		for _, size := range []int{100, 128 * (drives - parity), 128*(drives-parity) + 50} {
			data := s.bytes(size)
			l := pieces(slowLay(drives, parity, data))
			for _, harm := range subsets(len(l), 0, parity+1) {
				for bits := range 1 << len(harm) {
					var lost, wrong []int
					for i, place := range harm {
						if bits>>i&1 == 1 {
							lost = append(lost, place)
						} else {
							wrong = append(wrong, place)
						}
					}
					if len(lost) > parity {
						continue
					}
					places, right := expected(len(l), parity, lost, wrong)
					what := fmt.Sprint("Gather ", drives, parity, size, " lost ", lost, " wrong ", wrong)
					if len(harm) <= parity && !right {
						t.Fatalf("%s: no pick heals as many as parity", what)
					}
					got, bad, code := Gather(drives, parity, 7, size, harmed(l, lost, wrong), sumOf(data))
					if right {
						wantData(t, what, got, bad, code, data, places, api.OK)
					} else {
						wantData(t, what, got, bad, code, nil, nil, api.ErrSum)
					}
				}
			}
		}
	})
}

func TestGatherOfWrongByHand(t *testing.T) {
	data := (&seed{15}).bytes(700)
	l := pieces(slowLay(6, 3, data)) // places 0 to 2 are parity, 3 to 5 data
	known := []struct {
		lost, wrong, bad []int
		code             api.Errno
	}{
		{nil, nil, nil, api.OK},
		{nil, []int{3}, []int{3}, api.OK},
		{nil, []int{5}, []int{5}, api.OK},
		{nil, []int{3, 5}, []int{3, 5}, api.OK},
		{nil, []int{3, 4, 5}, []int{3, 4, 5}, api.OK},
		// Parity that is wrong is not told, where the data are right without it ..
		{nil, []int{0}, nil, api.OK},
		{nil, []int{0, 1, 2}, nil, api.OK},
		{nil, []int{1, 4}, []int{4}, api.OK},
		{nil, []int{1, 2, 4}, []int{4}, api.OK},
		{[]int{4}, []int{1, 2}, nil, api.OK},
		{[]int{0, 1}, []int{2}, nil, api.OK},
		// .. and it is, where it would be used.
		{nil, []int{0, 4}, []int{0, 4}, api.OK},
		{nil, []int{0, 1, 4}, []int{0, 1, 4}, api.OK},
		{nil, []int{1, 4, 5}, []int{1, 4, 5}, api.OK},
		{[]int{4}, []int{0}, []int{0}, api.OK},
		{[]int{4}, []int{0, 1}, []int{0, 1}, api.OK},
		{[]int{0, 4}, []int{1}, []int{1}, api.OK},
		{[]int{4}, []int{0, 2}, []int{0}, api.OK},
		// Lost ones take from those that may be taken as bad.
		{[]int{3}, []int{5}, []int{5}, api.OK},
		{[]int{3}, []int{4, 5}, []int{4, 5}, api.OK},
		{[]int{0, 1}, []int{5}, []int{5}, api.OK},
		{[]int{3}, []int{0, 5}, []int{0, 5}, api.OK},
		// Too many.
		{nil, []int{0, 3, 4, 5}, nil, api.ErrSum},
		{nil, []int{0, 1, 4, 5}, nil, api.ErrSum},
		{[]int{0}, []int{3, 4, 5}, nil, api.ErrSum},
		{[]int{3}, []int{0, 4, 5}, nil, api.ErrSum},
		{[]int{3, 4}, []int{0, 1}, nil, api.ErrSum},
		{[]int{0, 1, 2}, []int{3}, nil, api.ErrSum},
		{[]int{3, 4, 5}, []int{0}, nil, api.ErrSum},
		{[]int{0, 3, 4}, []int{2}, nil, api.ErrSum},
	}
	for _, c := range known {
		want := data
		if c.code != api.OK {
			want = nil
		}
		got, bad, code := Gather(6, 3, 0, 700, harmed(l, c.lost, c.wrong), sumOf(data))
		wantData(t, fmt.Sprint("Gather lost ", c.lost, " wrong ", c.wrong), got, bad, code, want, c.bad, c.code)
	}
}

// One bit alone is enough to be wrong, wherever it is: in what fills up the last sector too, since the sum is of whole sectors.
func TestGatherOfOneBit(t *testing.T) {
	data := (&seed{16}).bytes(300)
	whole := pieces(slowLay(4, 2, data))
	for place := 2; place < 4; place++ {
		for i := range whole[place].Data {
			l := pieces(slowLay(4, 2, data))
			l[place].Data[i] ^= 1 << (i % 8)
			got, bad, code := Gather(4, 2, 9, 300, l, sumOf(data))
			wantData(t, fmt.Sprint("Gather ", place, i), got, bad, code, data, []int{place}, api.OK)
		}
	}
}

// A sum that nothing has.
func TestGatherOfNoSum(t *testing.T) {
	each(func(drives, parity int) {
		for _, size := range []int{1, 128 * drives} {
			data := (&seed{17}).bytes(size)
			l := pieces(slowLay(drives, parity, data))
			s := sumOf(data)
			for _, sum := range []api.Sum{{}, {A: s.A + 1, B: s.B, C: s.C, D: s.D}, {A: s.A, B: s.B - 1, C: s.C, D: s.D}, {A: s.A, B: s.B, C: -s.C, D: s.D}, {A: s.A, B: s.B, C: s.C, D: s.D ^ least}, {A: least, B: most, C: -1, D: most}} {
				for _, lost := range subsets(len(l), 0, parity) {
					got, bad, code := Gather(drives, parity, 0, size, harmed(l, lost, nil), sum)
					wantData(t, fmt.Sprint("Gather ", drives, parity, size, " lost ", lost, sum), got, bad, code, nil, nil, api.ErrSum)
				}
			}
		}
	})
}

// slowData: the data, if the columns at some places are rebuilt out of the others, by the words of P11.3.
func slowData(l []api.Piece, parity, size int, gone []int) []byte {
	places := []int{} // by the order of par
	for place := range l {
		places = append(places, (place+parity)%len(l))
	}
	all := make([][]byte, len(l))
	var lost []int
	for i, place := range places {
		all[i] = make([]byte, len(l[0].Data))
		copy(all[i], l[place].Data)
		if slices.Contains(gone, place) {
			lost = append(lost, i)
		}
	}
	whole, _ := par.Rebuild(all, parity, lost)
	var data []byte
	for i := range len(l) - parity {
		data = append(data, whole[i][:len(l[places[i]].Data)]...)
	}
	return data[:(size+127)/128*128]
}

// Columns that do not fit together: each pick makes other data. Of those picks that have a sum, the first one in their order is told.
func TestGatherTellsTheFirstPick(t *testing.T) {
	s := &seed{18}
	each(func(drives, parity int) {
		for _, size := range []int{128, 128*(drives-parity) + 40} {
			l := pieces(slowLay(drives, parity, make([]byte, size)))
			for i := range l {
				l[i].Data = s.bytes(len(l[i].Data))
			}
			for _, lost := range subsets(len(l), 0, parity) {
				read := harmed(l, lost, nil)
				var made [][]byte
				var bads [][]int
				for _, bad := range subsets(len(l), 0, parity-len(lost)) {
					if !slices.ContainsFunc(bad, func(place int) bool { return slices.Contains(lost, place) }) {
						bads = append(bads, bad)
						made = append(made, slowData(l, parity, size, slices.Concat(lost, bad)))
					}
				}
				for k, data := range made {
					first := slices.IndexFunc(made, func(b []byte) bool { return bytes.Equal(b, data) })
					sum, _ := flet.Of(data)
					got, bad, code := Gather(drives, parity, 0, size, read, sum)
					wantData(t, fmt.Sprint("Gather ", drives, parity, size, " lost ", lost, " as of ", bads[k]), got, bad, code, data[:size], bads[first], api.OK)
				}
			}
		}
	})
}

// Of a column what it has is its first bytes: what is wrong behind its end harms it not.
func TestGatherOfShortColumns(t *testing.T) {
	data := (&seed{19}).bytes(4 * 128)
	l := pieces(slowLay(5, 2, data)) // 2 sectors each in the places 0 to 2, 1 each in 3 and 4
	l[0].Data[128] ^= 1
	l[0].Data[255] ^= 1
	l[3] = api.Piece{Lost: true}
	got, bad, code := Gather(5, 2, 0, len(data), l, sumOf(data))
	wantData(t, "Gather without a short one", got, bad, code, data, nil, api.OK)
	l = pieces(slowLay(5, 2, data))
	l[0].Data[128] ^= 1
	l[2] = api.Piece{Lost: true}
	got, bad, code = Gather(5, 2, 0, len(data), l, sumOf(data))
	wantData(t, "Gather without a long one", got, bad, code, data, []int{0}, api.OK)
}

// setWord: a word of a column, the lowest byte first.
func setWord(column []byte, place, a int) {
	for i := range 4 {
		column[4*place+i] = byte(a >> (8 * i))
	}
}

// Other data may have the sum, too: words that are changed by 1, -4, 6, -4 and 1, one behind the other, change none of the four sums. What is read has it, so nothing is taken as bad.
func TestGatherOfOtherDataWithTheSum(t *testing.T) {
	data := bytes.Repeat([]byte{100}, 300)
	other := slices.Clone(data)
	for i, change := range []int{1, -4, 6, -4, 1} {
		other[4*(i+3)] = byte(100 + change)
	}
	if sumOf(data) != sumOf(other) {
		t.Fatal("the sums are not the same")
	}
	for _, parity := range []int{1, 2, 3} {
		l := pieces(slowLay(4, parity, data))
		l[parity].Data = slowLay(4, parity, other)[parity]
		got, bad, code := Gather(4, parity, 0, 300, l, sumOf(data))
		wantData(t, fmt.Sprint("Gather ", parity), got, bad, code, other, nil, api.OK)
	}
}

// The second data column is wrong, but the first one, rebuilt out of it and the parity, makes data with the sum, too: that pick is ahead. In the first 8 words of both columns the signs are those with which three of the sums are the same for each column by itself, and all four for both.
func TestGatherOfAPickAheadWithTheSum(t *testing.T) {
	data := make([]byte, 256)
	first, second := data[:128], data[128:]
	read := make([]byte, 128)
	made := make([]byte, 128)
	for i, sign := range []int{1, 0, 0, 1, 0, 1, 1, 0} { // the change is 1 where it is 0, and -1 where it is 1
		setWord(first, i, 40+sign)
		setWord(made, i, 40+1-sign)
		setWord(second, i, 70+1-sign)
		setWord(read, i, 70+sign)
	}
	other := append(slices.Clone(made), read...)
	if sumOf(data) != sumOf(other) || sumOf(append(slices.Clone(first), read...)) == sumOf(data) {
		t.Fatal("the sums are not as they must be")
	}
	l := pieces(slowLay(3, 1, data))
	l[2].Data = slices.Clone(read)
	got, bad, code := Gather(3, 1, 0, 256, l, sumOf(data))
	wantData(t, "Gather", got, bad, code, other, []int{1}, api.OK)
	l[1].Data[0]++ // now that pick has no more of it than any other
	got, bad, code = Gather(3, 1, 0, 256, l, sumOf(data))
	wantData(t, "Gather", got, bad, code, other, []int{1}, api.OK)
	l[0].Data[0]++
	got, bad, code = Gather(3, 1, 0, 256, l, sumOf(data))
	wantData(t, "Gather", got, bad, code, nil, nil, api.ErrSum)
}

// The greatest block there is, with the most that may be wrong.
func TestGatherOfTheGreatest(t *testing.T) {
	data := (&seed{20}).bytes(4096)
	l := pieces(slowLay(8, 3, data))
	got, bad, code := Gather(8, 3, 65536, 4096, harmed(l, nil, []int{5, 6, 7}), sumOf(data))
	wantData(t, "Gather", got, bad, code, data, []int{5, 6, 7}, api.OK)
	got, bad, code = Gather(8, 3, 65536, 4096, harmed(l, nil, []int{4, 5, 6, 7}), sumOf(data))
	wantData(t, "Gather", got, bad, code, nil, nil, api.ErrSum)
}
