package tree

import (
	"bytes"
	"fmt"
	"math"
	"slices"
	"testing"

	"quickset/api"
)

// Short names for the least and the greatest number there is.
const (
	least = math.MinInt64
	most  = math.MaxInt64
)

// seed: numbers that look like chance, the same ones in each run.
type seed uint64

// below: the next number, from 0 on below n.
func (s *seed) below(n int) int {
	*s = *s*6364136223846793005 + 1442695040888963407
	return int(uint64(*s)>>33) % n
}

// bytes: the next n bytes, none of them 0.
func (s *seed) bytes(n int) []byte {
	b := make([]byte, n)
	for i := range b {
		b[i] = byte(1 + s.below(255))
	}
	return b
}

// one: one of some numbers.
func (s *seed) one(l []int) int {
	return l[s.below(len(l))]
}

// Short names for steps, and for what they come to.
func write(version, off int, data ...byte) api.Step {
	return api.Step{Kind: api.Write, Version: version, Off: off, Data: data}
}
func resize(version, count int) api.Step {
	return api.Step{Kind: api.Resize, Version: version, Count: count}
}
func read(version, off, count int) api.Step {
	return api.Step{Kind: api.Read, Version: version, Off: off, Count: count}
}
func made(version, size int) api.Shown {
	return api.Shown{Version: version, Size: size}
}
func has(size int, data ...byte) api.Shown {
	return api.Shown{Size: size, Data: data}
}
func no(code api.Errno) api.Shown {
	return api.Shown{Code: code}
}

// fill: n bytes, all the same.
func fill(b byte, n int) []byte {
	return bytes.Repeat([]byte{b}, n)
}

// same: is one answer of a step the other one?
func same(a, b api.Shown) bool {
	return a.Code == b.Code && a.Version == b.Version && a.Size == b.Size && bytes.Equal(a.Data, b.Data)
}

// wantPlay: do steps come to this?
func wantPlay(t *testing.T, what string, l []api.Step, shown []api.Shown, errno api.Errno) {
	t.Helper()
	got, code := Play(l)
	if code != errno || len(got) != len(shown) {
		t.Fatalf("Play %s: %d answers %d, want %d answers %d", what, len(got), code, len(shown), errno)
	}
	for i := range got {
		if !same(got[i], shown[i]) {
			t.Fatalf("Play %s: %v comes to\n%v, want\n%v (place %d)", what, l[i], got[i], shown[i], i)
		}
	}
}

// wantLast: does the last of some steps come to this, and do all others come to anything?
func wantLast(t *testing.T, l []api.Step, last api.Shown) {
	t.Helper()
	got, code := Play(l)
	if code != api.OK || len(got) != len(l) {
		t.Fatalf("Play: %d answers %d, want %d answers", len(got), code, len(l))
	}
	for i, s := range got[:len(got)-1] {
		if s.Code != api.OK {
			t.Fatalf("Play: %v is refused: %d (place %d)", l[i], s.Code, i)
		}
	}
	if !same(got[len(got)-1], last) {
		t.Errorf("Play: %v comes to\n%v, want\n%v", l[len(l)-1], got[len(got)-1], last)
	}
}

// plain: versions by the words of P12.1, all bytes of each; and by which step each one was made.
type plain struct {
	all [][]byte
	by  []api.Step
}

func newPlain() *plain {
	return &plain{all: [][]byte{nil}, by: []api.Step{{}}}
}

// resized: so many bytes, those of a list first, and bytes 0 behind them.
func resized(b []byte, size int) []byte {
	l := make([]byte, size)
	copy(l, b)
	return l
}

func (p *plain) do(s api.Step) api.Shown {
	if s.Kind != api.Write && s.Kind != api.Resize && s.Kind != api.Read {
		return no(api.ErrKind)
	}
	if s.Version < 0 || s.Version >= len(p.all) {
		return no(api.ErrRange)
	}
	b := p.all[s.Version]
	switch s.Kind {
	case api.Write:
		if s.Off < 0 {
			return no(api.ErrRange)
		}
		if len(s.Data) == 0 || s.Off > 4096 || s.Off+len(s.Data) > 4096 {
			return no(api.ErrSize)
		}
		l := resized(b, max(len(b), s.Off+len(s.Data)))
		copy(l[s.Off:], s.Data)
		return p.add(l, s)
	case api.Resize:
		if s.Count < 0 || s.Count > 4096 {
			return no(api.ErrRange)
		}
		return p.add(resized(b, s.Count), s)
	}
	if s.Off < 0 || s.Count < 0 {
		return no(api.ErrRange)
	}
	var l []byte
	for i := s.Off; i < len(b) && len(l) < s.Count; i++ {
		l = append(l, b[i])
	}
	return has(len(b), l...)
}

func (p *plain) add(b []byte, s api.Step) api.Shown {
	p.all, p.by = append(p.all, b), append(p.by, s)
	return made(len(p.all)-1, len(b))
}

// played: the versions behind steps, and what these come to, by hand.
func played(l []api.Step) (*plain, []api.Shown) {
	p := newPlain()
	var shown []api.Shown
	for _, s := range l {
		shown = append(shown, p.do(s))
	}
	return p, shown
}

// edges: sizes at, below and above each power at which the Level changes, and some more.
func edges() []int {
	return []int{0, 1, 2, 63, 64, 65, 127, 128, 129, 191, 192, 193, 255, 256, 257, 511, 512, 513, 600, 1023, 1024, 1025, 2047, 2048, 2049, 3000, 4032, 4095, 4096}
}

// somewhere: a place, at an edge, or anywhere.
func (s *seed) somewhere() int {
	if s.below(2) == 0 {
		return s.one(edges())
	}
	return s.below(4097)
}

// step: one of any kind, of a version that is there; some are refused. Some Data are bytes 0 alone.
func (s *seed) step(versions int) api.Step {
	version := versions - 1
	if s.below(3) == 0 {
		version = s.below(versions)
	}
	if s.below(20) == 0 {
		return api.Step{Kind: s.one([]int{-1, 0, 1, 2, 3, 4}), Version: s.one([]int{-1, version, versions, versions + 1}), Off: s.one([]int{-1, 0, 4095, 4096, 4097, most}), Count: s.one([]int{-1, 0, 4096, 4097, most}), Data: s.bytes(s.below(3))}
	}
	switch k := s.below(10); {
	case k < 5:
		off := min(s.somewhere(), 4095)
		data := s.bytes(1 + s.below(min(4096-off, s.one([]int{1, 2, 64, 65, 300, 4096}))))
		if s.below(8) == 0 {
			clear(data)
		}
		return write(version, off, data...)
	case k < 8:
		return resize(version, s.somewhere())
	}
	return read(version, s.somewhere(), s.somewhere())
}

// steps: a row of n.
func (s *seed) steps(n int) []api.Step {
	p := newPlain()
	var l []api.Step
	for range n {
		next := s.step(len(p.all))
		p.do(next)
		l = append(l, next)
	}
	return l
}

// wantVersions: has each version behind steps the bytes it had as it was made?
func wantVersions(t *testing.T, what string, l []api.Step) {
	t.Helper()
	p, shown := played(l)
	for v, b := range p.all {
		wantPlay(t, fmt.Sprint(what, " version ", v), append(slices.Clone(l), read(v, 0, 4096)), append(slices.Clone(shown), has(len(b), b...)), api.OK)
	}
}

// P12.1

func TestPlayByHand(t *testing.T) {
	steps := []api.Step{
		read(0, 0, 9), write(0, 0, 1, 2, 3, 4), read(1, 0, 9), // onto version 0
		write(1, 1, 8, 9), read(2, 0, 9), // within
		write(2, 3, 5, 6), read(3, 0, 9), // over the end
		write(3, 5, 7), read(4, 0, 9), // at the end
		write(4, 9, 7, 7), read(5, 0, 99), // behind it
		write(1, 0, 6), read(6, 0, 9), read(5, 0, 1), read(1, 0, 9), // onto one that is not the newest
		resize(5, 3), read(7, 0, 9), // shorter
		resize(7, 5), read(8, 0, 9), // longer: what version 5 had there is gone
		resize(8, 5), read(9, 0, 9), // to the size it has
		resize(9, 0), read(10, 0, 9), // to 0
		resize(10, 2), read(11, 0, 9), resize(0, 0), read(12, 0, 9), write(10, 2, 1), read(13, 0, 9),
		read(5, 1, 2), read(5, 10, 5), read(5, 10, 1), read(5, 11, 5), read(5, 12, 5), read(5, 4, 0), read(5, 11, 0), read(5, most, most), read(5, 3, most), read(5, most, 0),
	}
	shown := []api.Shown{
		has(0), made(1, 4), has(4, 1, 2, 3, 4),
		made(2, 4), has(4, 1, 8, 9, 4),
		made(3, 5), has(5, 1, 8, 9, 5, 6),
		made(4, 6), has(6, 1, 8, 9, 5, 6, 7),
		made(5, 11), has(11, 1, 8, 9, 5, 6, 7, 0, 0, 0, 7, 7),
		made(6, 4), has(4, 6, 2, 3, 4), has(11, 1), has(4, 1, 2, 3, 4),
		made(7, 3), has(3, 1, 8, 9),
		made(8, 5), has(5, 1, 8, 9, 0, 0),
		made(9, 5), has(5, 1, 8, 9, 0, 0),
		made(10, 0), has(0),
		made(11, 2), has(2, 0, 0), made(12, 0), has(0), made(13, 3), has(3, 0, 0, 1),
		has(11, 8, 9), has(11, 7), has(11, 7), has(11), has(11), has(11), has(11), has(11), has(11, 5, 6, 7, 0, 0, 0, 7, 7), has(11),
	}
	wantPlay(t, "by hand", steps, shown, api.OK)
	wantPlay(t, "of nil", nil, nil, api.OK)
	wantPlay(t, "of none", []api.Step{}, nil, api.OK)
}

// Onto versions of each edge, from each edge on, up to each edge.
func TestWriteAtEdges(t *testing.T) {
	s := seed(1)
	for _, size := range edges() {
		first := resize(0, 0)
		if size > 0 {
			first = write(0, 0, s.bytes(size)...)
		}
		l := []api.Step{first}
		for _, off := range edges() {
			for _, n := range []int{1, 2, 64, 65, size - off, size - off + 1, 4096 - off} {
				if n > 0 && off+n <= 4096 && len(l) < 300-1 {
					l = append(l, write(1, off, s.bytes(n)...), read(len(l)/2+2, 0, 4096))
				}
			}
		}
		l = l[:min(len(l), 300)]
		_, shown := played(l)
		wantPlay(t, fmt.Sprint("onto ", size), l, shown, api.OK)
	}
}

// To each edge, from each edge, and then longer again: nothing comes back.
func TestResizeAtEdges(t *testing.T) {
	s := seed(2)
	for _, size := range edges()[1:] {
		l := []api.Step{write(0, 0, s.bytes(size)...)}
		for _, short := range edges() {
			v := 1 + (len(l)-1)*2/5
			l = append(l, resize(1, short), read(v+1, 0, 4096), resize(v+1, 4096), read(v+2, 0, 4096), read(1, 0, 4096))
		}
		_, shown := played(l)
		wantPlay(t, fmt.Sprint("from ", size), l, shown, api.OK)
	}
}

func TestResizeMakesBytesZero(t *testing.T) {
	for _, size := range []int{1, 63, 64, 65, 256, 300, 1024, 1025, 4096} {
		for _, keep := range []int{0, 1, size / 2, size - 1} {
			want := append(fill(7, keep), fill(0, 4096-keep)...)
			wantLast(t, []api.Step{write(0, 0, fill(7, size)...), resize(1, keep), resize(2, 4096), read(3, 0, 4096)}, has(4096, want...))
			want[4095] = 9
			wantLast(t, []api.Step{write(0, 0, fill(7, size)...), resize(1, keep), write(2, 4095, 9), read(3, 0, 4096)}, has(4096, want...))
		}
	}
}

func TestPlayOfLongRows(t *testing.T) {
	for n := range 60 {
		s := seed(100 + n)
		l := s.steps(300)
		_, shown := played(l)
		wantPlay(t, fmt.Sprint("of row ", n), l, shown, api.OK)
	}
}

// What a version has stays, whatever is made of it.
func TestVersionsStay(t *testing.T) {
	for n := range 6 {
		s := seed(200 + n)
		wantVersions(t, fmt.Sprint("of row ", n), s.steps(120))
	}
}

func TestReadAtEdges(t *testing.T) {
	s := seed(3)
	for _, size := range edges()[1:] {
		l := []api.Step{write(0, 0, s.bytes(size)...)}
		for _, off := range []int{0, 1, 63, 64, 65, 256, 1000, 1024, size - 1, size, size + 1, 4096, 4097, 1 << 32, most - 1, most} {
			for _, count := range []int{0, 1, 2, 64, 65, size - off, size - off + 1, size, 4096, 4097, 1 << 40, most - 1, most} {
				if count >= 0 {
					l = append(l, read(1, off, count))
				}
			}
		}
		l = l[:min(len(l), 300)]
		_, shown := played(l)
		wantPlay(t, fmt.Sprint("of ", size), l, shown, api.OK)
	}
}

func TestPlayRefusesKinds(t *testing.T) {
	for _, kind := range []int{least, -1 << 32, -2, -1, 0, 4, 5, 9, 1<<32 + 1, most} {
		for _, version := range []int{-1, 0, 1, 2} { // ahead of all else that may be wrong
			for _, off := range []int{-1, 0} {
				wantPlay(t, fmt.Sprint("of kind ", kind), []api.Step{{Kind: kind, Version: version, Off: off, Count: off, Data: []byte{1}}, read(0, 0, 1), write(0, 0, 1)}, []api.Shown{no(api.ErrKind), has(0), made(1, 1)}, api.OK)
			}
		}
	}
}

func TestPlayRefusesVersions(t *testing.T) {
	for _, version := range []int{least, -1 << 32, -2, -1, 2, 3, 4, 1<<32 + 1, most - 1, most} {
		for _, bad := range []api.Step{write(version, 0, 1), resize(version, 1), read(version, 0, 1), write(version, -1), write(version, 4096, 1), write(version, 0), resize(version, 4097), read(version, 0, -1)} {
			wantPlay(t, fmt.Sprint("of version ", version), []api.Step{write(0, 0, 5), bad, write(1, 1, 6), read(2, 0, 9)}, []api.Shown{made(1, 1), no(api.ErrRange), made(2, 2), has(2, 5, 6)}, api.OK)
		}
	}
	// Versions that only a later step makes, or that a refused one did not make.
	steps := []api.Step{read(1, 0, 1), write(1, 0, 1), resize(1, 0), write(0, 0), read(1, 0, 1), write(0, 0, 4), read(1, 0, 1), read(2, 0, 1), resize(1, -1), read(2, 0, 1), read(0, 0, 1), read(2, 0, 1)}
	shown := []api.Shown{no(api.ErrRange), no(api.ErrRange), no(api.ErrRange), no(api.ErrSize), no(api.ErrRange), made(1, 1), has(1, 4), no(api.ErrRange), no(api.ErrRange), no(api.ErrRange), has(0), no(api.ErrRange)}
	wantPlay(t, "of versions that are not there yet", steps, shown, api.OK)
}

func TestPlayRefusesNumbers(t *testing.T) {
	for _, below := range []int{least, least + 1, -4096, -1 << 32, -1} {
		bad := []api.Step{write(1, below, 1), write(1, below), write(1, below, fill(1, 4097)...), resize(1, below), read(1, below, 1), read(1, 0, below), read(1, below, below), read(1, below, most)}
		for _, b := range bad {
			wantPlay(t, fmt.Sprint("of ", below), []api.Step{write(0, 0, 5), b, resize(1, 2)}, []api.Shown{made(1, 1), no(api.ErrRange), made(2, 2)}, api.OK)
		}
	}
	for _, above := range []int{4097, 4098, 8192, 1 << 32, 1<<32 + 1, most - 1, most} {
		wantPlay(t, fmt.Sprint("of ", above), []api.Step{write(0, 0, 5), resize(1, above), resize(1, 4096), write(1, above, 1), read(1, above, above), write(1, above)}, []api.Shown{made(1, 1), no(api.ErrRange), made(2, 4096), no(api.ErrSize), has(1), no(api.ErrSize)}, api.OK)
	}
}

func TestWriteRefusesSizes(t *testing.T) {
	fine := []struct{ off, n int }{{0, 4096}, {1, 4095}, {4095, 1}, {4000, 96}, {64, 4032}}
	for _, c := range fine {
		for _, first := range []api.Step{resize(0, 0), resize(0, 4096), write(0, 5, 5)} {
			wantLast(t, []api.Step{first, write(1, c.off, fill(3, c.n)...)}, made(2, 4096))
			for _, more := range []int{1, 2, 64, 4096} { // one byte behind MaxFile, or more
				bad := []api.Step{write(1, c.off+more, fill(3, c.n)...), write(1, c.off, fill(3, c.n+more)...)}
				for _, b := range bad {
					wantPlay(t, fmt.Sprint("Write ", c, more), []api.Step{first, b, read(2, 0, 1), resize(1, 1)}, []api.Shown{made(1, sizeOf(first)), no(api.ErrSize), no(api.ErrRange), made(2, 1)}, api.OK)
				}
			}
		}
	}
	for _, n := range []int{1, 2, 4096, 4097, 100000} { // off and n together would wrap round
		for _, off := range []int{most, most - 1, most - n + 1, most - n + 2, most - n + 4096, 1<<63 - 4096} {
			if off > 0 {
				wantPlay(t, fmt.Sprint("Write ", off, n), []api.Step{write(0, off, fill(3, n)...)}, []api.Shown{no(api.ErrSize)}, api.OK)
			}
		}
	}
	for _, none := range [][]byte{nil, {}} {
		for _, off := range []int{0, 1, 4095, 4096, 4097, most} {
			wantPlay(t, fmt.Sprint("Write of none ", off), []api.Step{write(0, off, none...)}, []api.Shown{no(api.ErrSize)}, api.OK)
		}
	}
}

// sizeOf: how many bytes the version has that a step makes of one that has none.
func sizeOf(s api.Step) int {
	p := newPlain()
	return p.do(s).Size
}

// Which is told, where several hold: the one that is named first.
func TestPlayTellsTheFirst(t *testing.T) {
	long := fill(1, 4097)
	known := []struct {
		s    api.Step
		code api.Errno
	}{
		{api.Step{Kind: 4, Version: -1, Off: -1, Count: -1}, api.ErrKind},
		{api.Step{Kind: api.Write, Version: 1, Off: 0}, api.ErrRange},
		{api.Step{Kind: api.Write, Version: 1, Off: 4096, Data: []byte{1}}, api.ErrRange},
		{api.Step{Kind: api.Write, Off: -1}, api.ErrRange},
		{api.Step{Kind: api.Write, Off: -1, Data: long}, api.ErrRange},
		{api.Step{Kind: api.Write, Off: 0, Data: long}, api.ErrSize},
		{api.Step{Kind: api.Write, Off: most}, api.ErrSize},
	}
	for _, c := range known {
		wantPlay(t, "of several", []api.Step{c.s}, []api.Shown{no(c.code)}, api.OK)
	}
}

// What a kind does not name is not looked at.
func TestPlayPassesByWhatIsNotNamed(t *testing.T) {
	for _, n := range []int{least, -1, 4097, most} {
		l := []api.Step{
			{Kind: api.Write, Count: n, Data: []byte{1, 2}},
			{Kind: api.Resize, Version: 1, Off: n, Count: 3, Data: fill(1, 4097)},
			{Kind: api.Read, Version: 2, Count: 9, Data: fill(1, 4097)},
		}
		wantPlay(t, fmt.Sprint("with ", n), l, []api.Shown{made(1, 2), made(2, 3), has(3, 1, 2, 0)}, api.OK)
	}
}

// many: n steps, of which each makes a version.
func many(n int) []api.Step {
	var l []api.Step
	for i := range n {
		l = append(l, write(i, i, byte(i)))
	}
	return l
}

func TestPlayOfMany(t *testing.T) {
	l := many(300)
	_, shown := played(l)
	wantPlay(t, "of MaxDeeds", l, shown, api.OK)
	for _, n := range []int{301, 302, 1000, 70000} {
		wantPlay(t, fmt.Sprint("of ", n), many(n), nil, api.ErrSize)
		wantPlay(t, fmt.Sprint("of nothing ", n), make([]api.Step, n), nil, api.ErrSize)
	}
}

// copied: steps in memory of their own, their Data with spare room in which there is something.
func copied(l []api.Step) []api.Step {
	out := make([]api.Step, len(l), len(l)+5)
	for i, s := range l {
		out[i] = s
		if s.Data != nil {
			out[i].Data = append(make([]byte, 0, len(s.Data)+8), s.Data...)
			copy(out[i].Data[:cap(out[i].Data)][len(s.Data):], "spare room")
		}
	}
	return out
}

// wantLeft: are steps as they were, spare room too?
func wantLeft(t *testing.T, what string, l, was []api.Step) {
	t.Helper()
	if fmt.Sprint(l[:cap(l)]) != fmt.Sprint(was[:cap(was)]) {
		t.Errorf("%s: the steps are not as they were", what)
	}
	for i := range l {
		if !bytes.Equal(l[i].Data[:cap(l[i].Data)], was[i].Data[:cap(was[i].Data)]) {
			t.Errorf("%s: the spare room at %d is not as it was", what, i)
		}
	}
}

func TestStepsAreLeft(t *testing.T) {
	s := seed(4)
	rows := s.steps(200)
	l, was := copied(rows), copied(rows)
	p, shown := played(rows)
	got, _ := Play(l)
	wantLeft(t, "Play", l, was)
	trees := allNodes(t, l, len(p.all))
	wantLeft(t, "Nodes", l, was)
	text := fmt.Sprint(trees)
	for _, step := range l { // what Data are changed to now does not matter
		for i := range step.Data[:cap(step.Data)] {
			step.Data[:cap(step.Data)][i] ^= 255
		}
	}
	for i := range got {
		if !same(got[i], shown[i]) {
			t.Errorf("the answer at %d was changed with the steps", i)
		}
	}
	if fmt.Sprint(trees) != text {
		t.Error("the nodes were changed with the steps")
	}
}

// ruin: changes all of a list, its spare room too.
func ruin(b []byte) {
	for i := range b[:cap(b)] {
		b[:cap(b)][i] ^= 255
	}
}

func TestAnswersShareNothing(t *testing.T) {
	l := []api.Step{write(0, 0, fill(1, 100)...), read(1, 0, 100), read(1, 0, 100), read(1, 50, 50), resize(1, 50), read(2, 0, 100)}
	for k := range l {
		got, _ := Play(l)
		again, _ := Play(l)
		ruin(got[k].Data)
		for i := range got {
			if i != k && !same(got[i], again[i]) {
				t.Errorf("the answers at %d and %d share memory", i, k)
			}
		}
		if _, shown := played(l); !same(again[k], shown[k]) {
			t.Errorf("two answers share memory at %d", k)
		}
	}
	first, _ := Nodes(l, 1)
	want := fmt.Sprint(first)
	second, _ := Nodes(l, 1)
	for k := range second {
		one := fmt.Sprint(second[k+1:])
		ruin(second[k].Data)
		for i := range second[k].Kids[:cap(second[k].Kids)] {
			second[k].Kids[:cap(second[k].Kids)][i] = 77
		}
		if fmt.Sprint(second[k+1:]) != one {
			t.Errorf("the node at %d shares memory with one behind it", k)
		}
	}
	if third, _ := Nodes(l, 1); fmt.Sprint(first) != want || fmt.Sprint(third) != want {
		t.Error("two answers of Nodes share memory")
	}
}

// P12.2

// levelFor: the least Level so that so many bytes have room.
func levelFor(size int) int {
	switch {
	case size <= 64:
		return 0
	case size <= 256:
		return 1
	case size <= 1024:
		return 2
	}
	return 3
}

// room: how many bytes there may be below a node.
func room(level int) int {
	return []int{64, 256, 1024, 4096}[level]
}

// where: a place of a tree: bytes from some on, below a node of a level.
type where struct {
	level, from int
}

// layout: which node, by its place in the list, stands at which place of the tree. It fails if the nodes have not the form of a tree.
func layout(t *testing.T, what string, l []api.Node) map[where]int {
	t.Helper()
	at := map[where]int{}
	if len(l) == 0 {
		return at
	}
	ups := make([]int, len(l))
	at[where{l[0].Level, 0}] = 0
	froms := make([]int, len(l))
	for place, n := range l { // kids are behind, so that where a node is, is known when it is reached
		if place > 0 && ups[place] != 1 {
			t.Fatalf("%s: the node at %d is a kid of %d", what, place, ups[place])
		}
		if n.Level == 0 {
			if len(n.Data) != 64 || len(n.Kids) != 0 {
				t.Fatalf("%s: the leaf at %d has %d bytes and %d kids", what, place, len(n.Data), len(n.Kids))
			}
			continue
		}
		if len(n.Data) != 0 || len(n.Kids) != 4 {
			t.Fatalf("%s: the node at %d has %d bytes and %d kids", what, place, len(n.Data), len(n.Kids))
		}
		for k, kid := range n.Kids {
			if kid == -1 {
				continue
			}
			if kid <= place || kid >= len(l) || l[kid].Level != n.Level-1 {
				t.Fatalf("%s: the node at %d has the kid %d", what, place, kid)
			}
			ups[kid]++
			froms[kid] = froms[place] + k*room(n.Level-1)
			at[where{l[kid].Level, froms[kid]}] = kid
		}
	}
	return at
}

// wantTree: are these the nodes of a version with these bytes?
func wantTree(t *testing.T, what string, l []api.Node, b []byte) {
	t.Helper()
	at := layout(t, what, l)
	if len(b) == 0 {
		if len(l) != 0 {
			t.Fatalf("%s: %d nodes of no bytes", what, len(l))
		}
		return
	}
	if len(l) == 0 || l[0].Level != levelFor(len(b)) {
		t.Fatalf("%s: the Level of %d nodes of %d bytes is not %d", what, len(l), len(b), levelFor(len(b)))
	}
	all := make([]byte, room(l[0].Level))
	for w, place := range at {
		copy(all[w.from:], l[place].Data)
	}
	if !bytes.Equal(all, resized(b, len(all))) {
		t.Fatalf("%s: the leaves have not the %d bytes of the version, or others behind them", what, len(b))
	}
}

// allNodes: those of all versions behind steps.
func allNodes(t *testing.T, l []api.Step, versions int) [][]api.Node {
	t.Helper()
	var all [][]api.Node
	for v := range versions {
		nodes, code := Nodes(l, v)
		if code != api.OK {
			t.Fatalf("Nodes of version %d: %d", v, code)
		}
		all = append(all, nodes)
	}
	return all
}

// wantNodes: are the nodes of all versions behind steps as they must be, by all promises?
func wantNodes(t *testing.T, what string, l []api.Step) {
	t.Helper()
	p, _ := played(l)
	all := allNodes(t, l, len(p.all))
	for v, nodes := range all {
		wantTree(t, fmt.Sprint(what, " version ", v), nodes, p.all[v])
		wantAges(t, fmt.Sprint(what, " version ", v), nodes, v)
		if p.by[v].Kind == api.Write {
			wantBirths(t, fmt.Sprint(what, " version ", v), all, v, p.by[v])
		}
	}
	wantIds(t, what, all)
	for _, version := range []int{least, -1 << 32, -2, -1, len(p.all), len(p.all) + 1, 1<<32 + 1, most} {
		wantNone(t, fmt.Sprint(what, " version ", version), l, version, api.ErrRange)
	}
}

// wantNone: are there no nodes, but an error?
func wantNone(t *testing.T, what string, l []api.Step, version int, errno api.Errno) {
	t.Helper()
	if nodes, code := Nodes(l, version); code != errno || len(nodes) != 0 {
		t.Fatalf("Nodes %s: %d nodes %d, want %d", what, len(nodes), code, errno)
	}
}

func TestNodesByHand(t *testing.T) {
	l := []api.Step{write(0, 63, 1), write(1, 64, 2), resize(2, 64), resize(0, 65), resize(0, 64), write(0, 256, 3)}
	wantNodes(t, "by hand", l)
	for v, many := range map[int]int{0: 0, 1: 1, 2: 3, 3: 1} {
		if nodes, _ := Nodes(l, v); len(nodes) != many {
			t.Errorf("version %d has %d nodes, want %d", v, len(nodes), many)
		}
	}
	two, _ := Nodes(l, 2)
	if !slices.Equal(two[0].Kids[2:], []int{-1, -1}) || two[two[0].Kids[0]].Data[63] != 1 || two[two[0].Kids[1]].Data[0] != 2 {
		t.Errorf("Nodes: %v", two)
	}
	wantNodes(t, "of no steps", nil)
}

// Sizes at, one below and one above each power, made in each way out of each other.
func TestNodesAtEdges(t *testing.T) {
	s := seed(5)
	for _, size := range edges() {
		l := []api.Step{resize(0, 0)}
		if size > 0 {
			l[0] = write(0, 0, s.bytes(size)...)
		}
		for _, other := range edges() {
			l = append(l, resize(1, other))
			if other > 0 {
				l = append(l, write(1, other-1, 9))
			}
			if other > 70 {
				l = append(l, write(1, other-70, s.bytes(70)...))
			}
			if len(l) < 60 {
				l = append(l, resize(len(l), size)) // back again
			}
		}
		wantNodes(t, fmt.Sprint("of ", size), l)
	}
}

// A version with bytes has a root, though all of them are 0.
func TestNodesOfZeros(t *testing.T) {
	for _, size := range edges()[1:] {
		for _, first := range []api.Step{resize(0, size), write(0, 0, fill(0, size)...)} {
			l := []api.Step{first, write(1, size-1, 1), write(1, 0, 1), write(1, size/2, 0), resize(1, (size+1)/2), resize(1, 4096), write(6, 4095, 1), write(6, 64, 1), write(1, 4000, 1)}
			wantNodes(t, fmt.Sprint("of zeros ", size), l)
		}
	}
	// What is cut down to is a hole.
	for _, size := range []int{1, 64, 65, 200, 256, 1000} {
		wantNodes(t, fmt.Sprint("of a hole ", size), []api.Step{write(0, 4095, 7), resize(1, size), write(2, 0, 1), write(2, 4095, 1), resize(2, 4096)})
	}
}

func TestNodesOfLongRows(t *testing.T) {
	for n := range 25 {
		s := seed(300 + n)
		wantNodes(t, fmt.Sprint("of row ", n), s.steps(300))
	}
}

func TestNodesRefuses(t *testing.T) {
	for _, version := range []int{least, -1, 0, 1, 300, 301, most} { // that there are too many is told first
		wantNone(t, "of MaxDeeds + 1", many(301), version, api.ErrSize)
		wantNone(t, "of refused ones", make([]api.Step, 301), version, api.ErrSize)
	}
	l := many(300)
	wantNone(t, "of 300", l, 301, api.ErrRange)
	nodes, code := Nodes(l, 300)
	if code != api.OK {
		t.Fatalf("Nodes of MaxDeeds: %d", code)
	}
	p, _ := played(l)
	wantTree(t, "of MaxDeeds", nodes, p.all[300])
	// A step that is refused makes no version.
	l = []api.Step{write(0, 0), write(0, -1, 1), resize(0, 4097), {Kind: 4}, read(0, 0, 1), write(1, 0, 1)}
	wantNone(t, "of refused ones", l, 1, api.ErrRange)
	wantNone(t, "of refused ones", append(l, write(0, 0, 1)), 2, api.ErrRange)
}

// P12.3

// wantAges: is no Birth above the version, and no kid's above that of its node?
func wantAges(t *testing.T, what string, l []api.Node, version int) {
	t.Helper()
	for place, n := range l {
		if n.Birth < 1 || n.Birth > version {
			t.Fatalf("%s: the node at %d was born by %d", what, place, n.Birth)
		}
		for _, kid := range n.Kids {
			if kid >= 0 && l[kid].Birth > n.Birth {
				t.Fatalf("%s: the node at %d was born by %d, its kid by %d", what, place, n.Birth, l[kid].Birth)
			}
		}
	}
}

// wantBirths: does a version that a Write made have new nodes just where it must, and those of the version it was made of elsewhere?
func wantBirths(t *testing.T, what string, all [][]api.Node, version int, by api.Step) {
	t.Helper()
	old := all[by.Version]
	stood := layout(t, what, old)
	for w, place := range layout(t, what, all[version]) {
		n := all[version][place]
		touched := w.from < by.Off+len(by.Data) && by.Off < w.from+room(w.level)
		above := len(old) > 0 && w.level > old[0].Level
		if born := n.Birth == version; born != (touched || above) {
			t.Fatalf("%s: the node at %v was born by %d (touched: %v, above: %v)", what, w, n.Birth, touched, above)
		}
		if touched || above {
			continue
		}
		if from, there := stood[w]; !there || old[from].Id != n.Id {
			t.Fatalf("%s: the node at %v is not that of version %d", what, w, by.Version)
		}
	}
}

// self: what a node is, but for its Id.
func self(l []api.Node, n api.Node) string {
	kids := []int{}
	holes := 0
	for k, kid := range n.Kids {
		if kid == -1 {
			holes |= 1 << k
			kids = append(kids, 0)
			continue
		}
		kids = append(kids, l[kid].Id)
	}
	return fmt.Sprint(n.Birth, n.Level, kids, holes, n.Data)
}

// wantIds: are nodes of any two versions with one Id the same?
func wantIds(t *testing.T, what string, all [][]api.Node) {
	t.Helper()
	known := map[int]string{}
	for v, l := range all {
		for place, n := range l {
			is := self(l, n)
			if was, there := known[n.Id]; there && was != is {
				t.Fatalf("%s: in version %d the node at %d has an Id with which there was another one:\n%s\n%s", what, v, place, is, was)
			}
			known[n.Id] = is
		}
	}
}

// idsOf: those of the nodes of a version, in their order.
func idsOf(t *testing.T, l []api.Step, version int) []int {
	t.Helper()
	nodes, code := Nodes(l, version)
	if code != api.OK {
		t.Fatalf("Nodes of version %d: %d", version, code)
	}
	var ids []int
	for _, n := range nodes {
		ids = append(ids, n.Id)
	}
	return ids
}

// newIn: how many nodes of a version another one has not.
func newIn(t *testing.T, l []api.Step, version, other int) int {
	t.Helper()
	had := idsOf(t, l, other)
	n := 0
	for _, id := range idsOf(t, l, version) {
		if !slices.Contains(had, id) {
			n++
		}
	}
	return n
}

func TestBirthsByHand(t *testing.T) {
	full := write(0, 0, fill(1, 4096)...)
	known := []struct {
		l             []api.Step
		version, of   int
		fresh, shares int // how many nodes it has of its own, and with the version it was made of
	}{
		{[]api.Step{full}, 1, 0, 85, 0},
		{[]api.Step{full, write(1, 0, 2)}, 2, 1, 4, 81},
		{[]api.Step{full, write(1, 63, 2, 2)}, 2, 1, 5, 80},
		{[]api.Step{full, write(1, 1023, 2, 2)}, 2, 1, 7, 78},
		{[]api.Step{full, write(1, 64, fill(2, 64)...)}, 2, 1, 4, 81},
		{[]api.Step{full, write(1, 0, 2), write(1, 4095, 3)}, 3, 1, 4, 81},                   // of an older one
		{[]api.Step{full, write(1, 0, 1)}, 2, 1, 4, 81},                                      // what was there is written
		{[]api.Step{write(0, 0, 1), write(1, 4095, 2)}, 2, 1, 6, 1},                          // above the leaf there was: one of each Level
		{[]api.Step{write(0, 0, 1), write(1, 70, 2)}, 2, 1, 2, 1},                            // what stands between is not written
		{[]api.Step{write(0, 0, 1), write(1, 300, 2)}, 2, 1, 4, 1},                           // the root, one above the leaf, and two
		{[]api.Step{write(0, 4095, 1)}, 1, 0, 4, 0},                                          // of one without bytes
		{[]api.Step{full, resize(1, 0), write(2, 300, 1)}, 3, 2, 3, 0},                       // of one without bytes, again
		{[]api.Step{write(0, 0, fill(1, 256)...), write(1, 256, 1)}, 2, 1, 3, 5},             // the root of version 1 is a kid now
		{[]api.Step{write(0, 0, fill(1, 256)...), write(1, 0, fill(2, 257)...)}, 2, 1, 8, 0}, // all is written
	}
	for _, c := range known {
		wantNodes(t, "by hand", c.l)
		all := len(idsOf(t, c.l, c.version))
		if fresh := newIn(t, c.l, c.version, c.of); fresh != c.fresh || all-fresh != c.shares {
			t.Errorf("version %d of %d steps: %d new nodes and %d shared ones, want %d and %d", c.version, len(c.l), fresh, all-fresh, c.fresh, c.shares)
		}
	}
}

// What is not touched is not copied: by a Resize, too.
func TestResizeShares(t *testing.T) {
	full := write(0, 0, fill(1, 4096)...)
	for _, c := range []struct{ size, fresh int }{{4096, 0}, {4095, 4}, {4032, 3}, {3072, 1}, {1025, 4}, {1024, 0}, {1023, 3}, {256, 0}, {64, 0}, {63, 1}, {0, 0}} {
		l := []api.Step{full, resize(1, c.size), resize(2, c.size), resize(3, 4096)}
		wantNodes(t, fmt.Sprint("to ", c.size), l)
		if fresh := newIn(t, l, 2, 1); fresh != c.fresh {
			t.Errorf("Resize to %d: %d new nodes, want %d", c.size, fresh, c.fresh)
		}
		if fresh := newIn(t, l, 3, 2); fresh != 0 {
			t.Errorf("Resize to %d, which it has: %d new nodes", c.size, fresh)
		}
		if c.size > 0 {
			if fresh := newIn(t, l, 4, 3); fresh != 3-levelFor(c.size) {
				t.Errorf("Resize from %d: %d new nodes", c.size, fresh)
			}
		}
	}
}

// Nothing is kept from call to call: the same steps have the same nodes again, with the same Ids, whatever was asked between.
func TestNodesAgain(t *testing.T) {
	s := seed(6)
	l, others := s.steps(200), s.steps(200)
	p, _ := played(l)
	first := fmt.Sprint(allNodes(t, l, len(p.all)))
	q, _ := played(others)
	allNodes(t, others, len(q.all))
	if fmt.Sprint(allNodes(t, l, len(p.all))) != first {
		t.Error("the nodes are others now")
	}
}
