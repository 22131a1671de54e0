package flet

import (
	"bytes"
	"encoding/binary"
	"fmt"
	"math"
	"math/big"
	"testing"

	"quickset/api"
)

// Short names for the least and the greatest number there is.
const (
	least = math.MinInt64
	most  = math.MaxInt64
)

// strange: sums that no few words have, those that wrap round at once among them.
var strange = []api.Sum{
	{}, {A: 1}, {B: 1}, {C: 1}, {D: 1},
	{A: 1, B: 20, C: 300, D: 4000}, {A: -1, B: -1, C: -1, D: -1}, {A: -5, B: 6, C: -7, D: 8},
	{A: most, B: most, C: most, D: most}, {A: least, B: least, C: least, D: least},
	{A: most, B: least, C: -1, D: 1}, {A: least, B: most, C: 1, D: -1}, {A: most}, {A: least}, {D: most}, {D: least},
	{A: 1 << 32, B: 1 << 40, C: 1 << 50, D: 1 << 62}, {A: 1<<62 + 12345, B: -1<<62 - 54321, C: 1<<61 + 7, D: -1<<60 + 3},
}

// seed: a row of numbers that looks like chance and is the same in every run.
type seed struct{ now uint64 }

func (s *seed) next() byte {
	s.now = s.now*6364136223846793005 + 1442695040888963407
	return byte(s.now >> 40)
}

func (s *seed) bytes(size int) []byte {
	b := make([]byte, size)
	for k := range b {
		b[k] = s.next()
	}
	return b
}

func (s *seed) number() int {
	return int(binary.BigEndian.Uint64(s.bytes(8)))
}

func (s *seed) sum() api.Sum {
	return api.Sum{A: s.number(), B: s.number(), C: s.number(), D: s.number()}
}

// words: these numbers as bytes.
func words(l ...uint32) []byte {
	var b []byte
	for _, a := range l {
		b = binary.LittleEndian.AppendUint32(b, a)
	}
	return b
}

// wrapped: a number of any length as one of 64 bits.
func wrapped(a *big.Int) int {
	rest := new(big.Int).And(a, new(big.Int).SetUint64(math.MaxUint64)) // And takes numbers below 0 as if they had 1s ahead without end
	return int(rest.Uint64())
}

// slowMore: by the words of P4.1 and P4.2, each number as long as it grows, and wrapped round at the end alone.
func slowMore(s api.Sum, b []byte) api.Sum {
	a1, b1, c1, d1 := big.NewInt(int64(s.A)), big.NewInt(int64(s.B)), big.NewInt(int64(s.C)), big.NewInt(int64(s.D))
	for ; len(b) > 0; b = b[4:] {
		a1.Add(a1, big.NewInt(int64(b[0])+int64(b[1])*256+int64(b[2])*65536+int64(b[3])*16777216))
		b1.Add(b1, a1)
		c1.Add(c1, b1)
		d1.Add(d1, c1)
	}
	return api.Sum{A: wrapped(a1), B: wrapped(b1), C: wrapped(c1), D: wrapped(d1)}
}

// slowJoin: words add the same to the sums whatever these are, so what stood ahead goes on as if there were words 0 behind it, and t comes to it.
func slowJoin(s, t api.Sum, n int) api.Sum {
	for range n {
		s.B += s.A
		s.C += s.B
		s.D += s.C
	}
	return api.Sum{A: s.A + t.A, B: s.B + t.B, C: s.C + t.C, D: s.D + t.D}
}

// same: n words of one number have sums that are known: it times how many ways there are to pick 1, 2, 3 and 4 of n, n + 1, n + 2 and n + 3.
func same(a uint32, n int) api.Sum {
	var l [4]int
	for k := range l {
		times := new(big.Int).Binomial(int64(n+k), int64(k+1))
		l[k] = wrapped(times.Mul(times, big.NewInt(int64(a))))
	}
	return api.Sum{A: l[0], B: l[1], C: l[2], D: l[3]}
}

// want: is what a call answered as it should be, and all well?
func want(t *testing.T, what string, got api.Sum, code api.Errno, sum api.Sum) {
	t.Helper()
	if got != sum || code != api.OK {
		t.Errorf("%s: %v %d, want %v %d", what, got, code, sum, api.OK)
	}
}

// wantCode: was the call refused so, with nothing besides?
func wantCode(t *testing.T, what string, got api.Sum, code, errno api.Errno) {
	t.Helper()
	if got != (api.Sum{}) || code != errno {
		t.Errorf("%s: %v %d, want %v %d", what, got, code, api.Sum{}, errno)
	}
}

// ragged: numbers of bytes that are no words.
func ragged() []int {
	var l []int
	for n := range 300 {
		if n%4 != 0 {
			l = append(l, n)
		}
	}
	return append(l, 4095, 4097, 4098, 4099, 65535, 65537, 1<<20-1, 1<<20+1, 1<<20+2, 1<<20+3)
}

// P4.1

func TestOfNoByte(t *testing.T) {
	got, code := Of(nil)
	want(t, "Of nil", got, code, api.Sum{})
	got, code = Of([]byte{})
	want(t, "Of none", got, code, api.Sum{})
	got, code = Of([]byte{1, 2, 3, 4}[:0])
	want(t, "Of none, with spare room", got, code, api.Sum{})
}

func TestOfOneWord(t *testing.T) {
	known := []struct {
		b    []byte
		word int
	}{
		{[]byte{0, 0, 0, 0}, 0},
		{[]byte{1, 0, 0, 0}, 1},
		{[]byte{0, 1, 0, 0}, 256},
		{[]byte{0, 0, 1, 0}, 65536},
		{[]byte{0, 0, 0, 1}, 16777216},
		{[]byte{255, 0, 0, 0}, 255},
		{[]byte{0, 255, 0, 0}, 65280},
		{[]byte{0, 0, 255, 0}, 16711680},
		{[]byte{0, 0, 0, 255}, 4278190080},
		{[]byte{0, 0, 0, 128}, 2147483648},
		{[]byte{255, 255, 255, 127}, 2147483647},
		{[]byte{255, 255, 255, 255}, 4294967295},
		{[]byte{4, 3, 2, 1}, 16909060},
		{[]byte{1, 2, 3, 4}, 67305985},
	}
	for _, c := range known {
		got, code := Of(c.b)
		want(t, fmt.Sprint("Of ", c.b), got, code, api.Sum{A: c.word, B: c.word, C: c.word, D: c.word})
	}
}

func TestOfEveryByteInItsPlace(t *testing.T) {
	for place := range 4 {
		for a := range 256 {
			b := make([]byte, 4)
			b[place] = byte(a)
			word := a << (8 * place)
			got, code := Of(b)
			want(t, fmt.Sprint("Of ", b), got, code, api.Sum{A: word, B: word, C: word, D: word})
		}
	}
}

func TestOfSeveralWords(t *testing.T) {
	known := []struct {
		b   []byte
		sum api.Sum
	}{
		{[]byte{1, 0, 0, 0, 2, 1, 0, 0}, api.Sum{A: 259, B: 260, C: 261, D: 262}},
		{words(1, 0), api.Sum{A: 1, B: 2, C: 3, D: 4}},
		{words(0, 1), api.Sum{A: 1, B: 1, C: 1, D: 1}},
		{words(1, 2, 3), api.Sum{A: 6, B: 10, C: 15, D: 21}},
		{words(3, 2, 1), api.Sum{A: 6, B: 14, C: 25, D: 39}},
		{words(1, 0, 0, 0), api.Sum{A: 1, B: 4, C: 10, D: 20}},
		{words(1<<32-1, 1<<32-1), api.Sum{A: 8589934590, B: 12884901885, C: 17179869180, D: 21474836475}},
		{words(1<<32-1, 1<<32-1, 1<<32-1), api.Sum{A: 12884901885, B: 25769803770, C: 42949672950, D: 64424509425}},
		{words(16909060, 4177000181), api.Sum{A: 4193909241, B: 4210818301, C: 4227727361, D: 4244636421}},
		{make([]byte, 4000), api.Sum{}},
	}
	for _, c := range known {
		got, code := Of(c.b)
		want(t, fmt.Sprintf("Of %d bytes", len(c.b)), got, code, c.sum)
	}
}

func TestOfWordByWord(t *testing.T) {
	s := &seed{1}
	for n := range 200 {
		b := s.bytes(4 * n)
		got, code := Of(b)
		want(t, fmt.Sprintf("Of %d bytes", len(b)), got, code, slowMore(api.Sum{}, b))
	}
}

func TestOfWrapsRound(t *testing.T) {
	known := []struct {
		n   int
		sum api.Sum
	}{
		{1000, api.Sum{A: 4294967295000, B: 2149631131147500, C: 717976797803265000, D: -4434758687926817410}},
		{70000, api.Sum{A: 300647710650000, B: -7923923877104226616, C: -5123897559188010576, D: 2184419360981705348}},
	}
	for _, c := range known {
		got, code := Of(bytes.Repeat([]byte{255}, 4*c.n))
		want(t, fmt.Sprint("Of words of 1s: ", c.n), got, code, c.sum)
	}
	for _, n := range []int{475, 477, 2343, 2345, 65535, 65536, 65537, 1 << 17, 1 << 20} {
		for _, a := range []uint32{1, 1 << 31, 1<<32 - 1, 3141592653} {
			got, code := Of(bytes.Repeat(words(a), n))
			want(t, fmt.Sprint("Of words ", a, n), got, code, same(a, n))
		}
	}
	b := (&seed{2}).bytes(4 * 70001)
	got, code := Of(b)
	want(t, "Of many bytes", got, code, slowMore(api.Sum{}, b))
}

func TestOfNoWords(t *testing.T) {
	s := &seed{3}
	for _, n := range ragged() {
		got, code := Of(s.bytes(n))
		wantCode(t, fmt.Sprintf("Of %d bytes", n), got, code, api.ErrForm)
		got, code = Of(make([]byte, n))
		wantCode(t, fmt.Sprintf("Of %d bytes 0", n), got, code, api.ErrForm)
	}
}

// Spare room that would make a word whole is no part of what was handed in.
func TestSpareRoomIsNotRead(t *testing.T) {
	b := []byte{1, 2, 3, 4, 5, 6, 7, 8}
	for n := range b {
		got, code := Of(b[:n])
		if n%4 != 0 {
			wantCode(t, fmt.Sprint("Of ", b[:n]), got, code, api.ErrForm)
			continue
		}
		want(t, fmt.Sprint("Of ", b[:n]), got, code, slowMore(api.Sum{}, b[:n]))
	}
}

func TestWhatIsHandedInIsAsItWas(t *testing.T) {
	s := &seed{4}
	for n := range 50 {
		wide := s.bytes(n + 20)
		was := bytes.Clone(wide)
		b := wide[:n]
		Of(b)
		More(s.sum(), b)
		if !bytes.Equal(wide, was) || len(b) != n {
			t.Errorf("%d bytes: %v, and they were %v", n, wide, was)
		}
	}
}

// P4.2

func TestMoreOfKnown(t *testing.T) {
	known := []struct {
		s   api.Sum
		b   []byte
		sum api.Sum
	}{
		{api.Sum{}, words(1, 2, 3), api.Sum{A: 6, B: 10, C: 15, D: 21}},
		{api.Sum{A: 1, B: 1, C: 1, D: 1}, []byte{2, 1, 0, 0}, api.Sum{A: 259, B: 260, C: 261, D: 262}},
		{api.Sum{A: 10, B: 200, C: 3000, D: 40000}, words(7, 5), api.Sum{A: 22, B: 239, C: 3456, D: 46673}},
		{api.Sum{A: 1}, words(0), api.Sum{A: 1, B: 1, C: 1, D: 1}},
		{api.Sum{B: 1}, words(0), api.Sum{B: 1, C: 1, D: 1}},
		{api.Sum{C: 1}, words(0), api.Sum{C: 1, D: 1}},
		{api.Sum{D: 1}, words(0), api.Sum{D: 1}},
		{api.Sum{A: -1, B: -1, C: -1, D: -1}, words(1), api.Sum{B: -1, C: -2, D: -3}},
		{api.Sum{A: most}, words(1), api.Sum{A: least, B: least, C: least, D: least}},
		{api.Sum{A: most, B: 1}, words(0), api.Sum{A: most, B: least, C: least, D: least}},
		{api.Sum{A: least}, words(0, 0), api.Sum{A: least, C: least}},
		{api.Sum{A: least, B: least, C: least, D: least}, words(1, 2), api.Sum{A: least + 3, B: least + 4, C: 5, D: 6}},
		{api.Sum{A: most, B: most, C: most, D: most}, words(1<<32 - 1), api.Sum{A: -9223372032559808514, B: 4294967293, C: -9223372032559808516, D: 4294967291}},
	}
	for _, c := range known {
		got, code := More(c.s, c.b)
		want(t, fmt.Sprint("More ", c.s, c.b), got, code, c.sum)
	}
}

func TestMoreBehindNothingIsOf(t *testing.T) {
	s := &seed{5}
	for n := range 60 {
		b := s.bytes(4 * n)
		of, _ := Of(b)
		got, code := More(api.Sum{}, b)
		want(t, fmt.Sprintf("More %d bytes", len(b)), got, code, of)
	}
}

func TestMoreOfNoByte(t *testing.T) {
	for _, sum := range strange {
		for _, b := range [][]byte{nil, {}, words(9)[:0]} {
			got, code := More(sum, b)
			want(t, fmt.Sprint("More ", sum, b), got, code, sum)
		}
	}
}

func TestMoreOfAnySums(t *testing.T) {
	s := &seed{6}
	for n := range 40 {
		for _, sum := range append([]api.Sum{s.sum(), s.sum()}, strange...) {
			b := s.bytes(4 * n)
			got, code := More(sum, b)
			want(t, fmt.Sprint("More ", sum, b), got, code, slowMore(sum, b))
		}
	}
}

func TestMoreBehindOfIsOfBoth(t *testing.T) {
	s := &seed{7}
	for _, n := range []int{0, 1, 2, 3, 20, 33} {
		b := s.bytes(4 * n)
		whole, _ := Of(b)
		for cut := 0; cut <= len(b); cut += 4 {
			first, _ := Of(b[:cut])
			got, code := More(first, b[cut:])
			want(t, fmt.Sprint("More ", first, b[cut:]), got, code, whole)
		}
		var step api.Sum
		for at := 0; at < len(b); at += 4 {
			step, _ = More(step, b[at:at+4])
		}
		want(t, fmt.Sprintf("More word by word, %d bytes", len(b)), step, api.OK, whole)
	}
	long := bytes.Repeat([]byte{255}, 4*70000)
	first, _ := Of(long[:4*66000])
	got, code := More(first, long[4*66000:])
	want(t, "More behind sums that wrapped round", got, code, same(1<<32-1, 70000))
}

func TestMoreOfNoWords(t *testing.T) {
	s := &seed{8}
	for k, n := range ragged() {
		for _, sum := range []api.Sum{strange[k%len(strange)], s.sum()} {
			got, code := More(sum, s.bytes(n))
			wantCode(t, fmt.Sprintf("More %v %d bytes", sum, n), got, code, api.ErrForm)
		}
	}
}

// P4.3

func TestJoinOfKnown(t *testing.T) {
	wild, other := api.Sum{A: most, B: least, C: -1, D: 1}, api.Sum{A: 1, B: most, C: least, D: -1}
	tame, next := api.Sum{A: 1, B: 20, C: 300, D: 4000}, api.Sum{A: 5, B: 60, C: 700, D: 8000}
	known := []struct {
		s, t api.Sum
		n    int
		sum  api.Sum
	}{
		{api.Sum{}, api.Sum{}, 0, api.Sum{}},
		{tame, next, 0, api.Sum{A: 6, B: 80, C: 1000, D: 12000}},
		{wild, other, 0, api.Sum{A: least, B: -1, C: most, D: 0}},
		{api.Sum{A: 1, B: 1, C: 1, D: 1}, api.Sum{A: 258, B: 258, C: 258, D: 258}, 1, api.Sum{A: 259, B: 260, C: 261, D: 262}},
		{wild, other, 1, api.Sum{A: least, B: most - 1, C: most - 1, D: -2}},
		{tame, next, 2, api.Sum{A: 6, B: 82, C: 1043, D: 12664}},
		{api.Sum{A: 1}, api.Sum{}, 3, api.Sum{A: 1, B: 3, C: 6, D: 10}},
		{api.Sum{B: 1}, api.Sum{}, 3, api.Sum{B: 1, C: 3, D: 6}},
		{api.Sum{C: 1}, api.Sum{}, 3, api.Sum{C: 1, D: 3}},
		{api.Sum{D: 1}, api.Sum{}, 3, api.Sum{D: 1}},
		{tame, next, 3, api.Sum{A: 6, B: 83, C: 1066, D: 13030}},
		{wild, other, 3, api.Sum{A: least, B: most - 3, C: -7, D: -13}},
		{api.Sum{A: 1}, api.Sum{}, 1048576, api.Sum{A: 1, B: 1048576, C: 549756338176, D: 192154133857304576}},
		{api.Sum{B: 1}, api.Sum{}, 1048576, api.Sum{B: 1, C: 1048576, D: 549756338176}},
		{api.Sum{}, wild, 1048576, wild},
		{api.Sum{A: most, B: most, C: most, D: most}, api.Sum{}, 1048576, api.Sum{A: most, B: 9223372036853727231, C: 9223371487097389055, D: 9031217353240084479}},
		{api.Sum{A: least, B: least, C: least, D: least}, api.Sum{A: least, B: least, C: least, D: least}, 1048576, api.Sum{}},
		{api.Sum{A: -1, B: -1, C: -1, D: -1}, api.Sum{A: 5, B: 6, C: 7, D: 8}, 1048576, api.Sum{A: 4, B: -1048571, C: -549757386746, D: -192154683614691321}},
	}
	for _, c := range known {
		got, code := Join(c.s, c.t, c.n)
		want(t, fmt.Sprint("Join ", c.s, c.t, c.n), got, code, c.sum)
	}
}

func TestJoinOfAnySums(t *testing.T) {
	s := &seed{9}
	for _, n := range []int{0, 1, 2, 3, 4, 5, 6, 7, 8, 9, 31, 32, 33, 1000, 1001, 1002} {
		for _, first := range append([]api.Sum{s.sum()}, strange...) {
			for _, second := range append([]api.Sum{s.sum()}, strange...) {
				got, code := Join(first, second, n)
				want(t, fmt.Sprint("Join ", first, second, n), got, code, slowJoin(first, second, n))
			}
		}
	}
}

func TestJoinOfManyWords(t *testing.T) {
	s := &seed{10}
	for _, n := range []int{65535, 65536, 65537, 1<<20 - 3, 1<<20 - 2, 1<<20 - 1, 1 << 20} {
		for _, first := range append([]api.Sum{s.sum()}, strange...) {
			second := s.sum()
			got, code := Join(first, second, n)
			want(t, fmt.Sprint("Join ", first, second, n), got, code, slowJoin(first, second, n))
		}
	}
}

func TestJoinIsOfBoth(t *testing.T) {
	s := &seed{11}
	for _, n := range []int{0, 1, 2, 3, 20, 33} {
		b := s.bytes(4 * n)
		whole, _ := Of(b)
		for cut := 0; cut <= n; cut++ {
			first, _ := Of(b[:4*cut])
			second, _ := Of(b[4*cut:])
			got, code := Join(first, second, n-cut)
			want(t, fmt.Sprint("Join ", first, second, n-cut), got, code, whole)
		}
	}
}

func TestJoinIsOfBothThoughTheyWrapRound(t *testing.T) {
	b := (&seed{12}).bytes(4 * (api.MaxCount + 70000))
	whole, _ := Of(b)
	for _, behind := range []int{0, 1, 2, 69999, 70000, api.MaxCount - 1, api.MaxCount} {
		cut := len(b) - 4*behind
		first, _ := Of(b[:cut])
		second, _ := Of(b[cut:])
		got, code := Join(first, second, behind)
		want(t, fmt.Sprint("Join ", first, second, behind), got, code, whole)
	}
}

func TestJoinIsMore(t *testing.T) {
	s := &seed{13}
	for n := range 30 {
		for _, first := range append([]api.Sum{s.sum()}, strange...) {
			b := s.bytes(4 * n)
			second, _ := Of(b)
			more, _ := More(first, b)
			got, code := Join(first, second, n)
			want(t, fmt.Sprint("Join ", first, second, n), got, code, more)
		}
	}
}

func TestJoinOfNoSuchNumber(t *testing.T) {
	s := &seed{14}
	numbers := []int{-1, -2, -3, -4, -1048576, -1048577, least, least + 1, 1048577, 1048578, 1 << 21, 1 << 32, 1<<32 + 1, -1 << 32, 1 << 62, most - 1, most}
	for _, n := range numbers {
		for _, first := range append([]api.Sum{s.sum()}, strange...) {
			got, code := Join(first, s.sum(), n)
			wantCode(t, fmt.Sprint("Join ", first, n), got, code, api.ErrRange)
		}
		got, code := Join(api.Sum{}, api.Sum{}, n)
		wantCode(t, fmt.Sprint("Join of nothing ", n), got, code, api.ErrRange)
	}
}

// What comes of it.

func TestWhatIsSeen(t *testing.T) {
	s := &seed{15}
	for n := 1; n <= 12; n++ {
		b := s.bytes(4 * n)
		was, _ := Of(b)
		for place := range b {
			for bit := range 8 {
				changed := bytes.Clone(b)
				changed[place] ^= 1 << bit
				if got, _ := Of(changed); got == was {
					t.Errorf("Of %v and of %v: %v", b, changed, got)
				}
			}
		}
		for at := 4; at < len(b); at += 4 {
			turned := bytes.Clone(b)
			copy(turned[at-4:], b[at:at+4])
			copy(turned[at:], b[at-4:at])
			if got, _ := Of(turned); got == was {
				t.Errorf("Of %v and of %v: %v", b, turned, got)
			}
		}
	}
}

func TestWordsZeroAheadAreNotSeen(t *testing.T) {
	s := &seed{16}
	for n := range 12 {
		b := s.bytes(4 * n)
		was, _ := Of(b)
		for ahead := range 5 {
			got, code := Of(append(make([]byte, 4*ahead), b...))
			want(t, fmt.Sprint("Of ", ahead, " words 0 ahead of ", b), got, code, was)
		}
	}
}

func TestAnswersAreTheSameAgain(t *testing.T) {
	s := &seed{17}
	b, sum := s.bytes(400), s.sum()
	of, _ := Of(b)
	more, _ := More(sum, b)
	joined, _ := Join(sum, of, 100)
	Of(s.bytes(4000))
	More(s.sum(), s.bytes(7))
	Join(s.sum(), s.sum(), -1)
	got, code := Of(b)
	want(t, "Of again", got, code, of)
	got, code = More(sum, b)
	want(t, "More again", got, code, more)
	got, code = Join(sum, of, 100)
	want(t, "Join again", got, code, joined)
}
