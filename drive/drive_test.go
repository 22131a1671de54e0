package drive

import (
	"bytes"
	"math"
	"slices"
	"testing"

	"quickset/api"
)

// Short names for the least and the greatest number there is.
const (
	least = math.MinInt64
	most  = math.MaxInt64
)

// seed: numbers that look like chance, the same ones in each run.
type seed uint64

// next: the next number, of all that there are.
func (s *seed) next() int {
	*s = *s*6364136223846793005 + 1442695040888963407
	high := uint64(*s) >> 32
	*s = *s*6364136223846793005 + 1442695040888963407
	return int(high<<32 | uint64(*s)>>32)
}

// below: the next number, from 0 on below n.
func (s *seed) below(n int) int {
	return int(uint64(s.next())>>1) % n
}

// filled: a sector's bytes, which are not all the same; another n below 65536 makes other ones.
func filled(n int) []byte {
	b := make([]byte, 128)
	for i := range b {
		b[i] = byte(n + 3*i)
	}
	b[1] = byte(n >> 8)
	return b
}

// Short names for jobs, and for what they come to.
func put(at, n int) api.Job  { return api.Job{Kind: api.Put, At: at, Data: filled(n)} }
func get(at int) api.Job     { return api.Job{Kind: api.Get, At: at} }
func flush() api.Job         { return api.Job{Kind: api.Flush} }
func crash(keep int) api.Job { return api.Job{Kind: api.Crash, Keep: keep} }
func broken(at int) api.Job  { return api.Job{Kind: api.Break, At: at} }
func rot(at, n int) api.Job  { return api.Job{Kind: api.Rot, At: at, Data: filled(n)} }
func fail() api.Job          { return api.Job{Kind: api.Fail} }
func renew() api.Job         { return api.Job{Kind: api.Renew} }

func done() api.Reply             { return api.Reply{} }
func has(n int) api.Reply         { return api.Reply{Data: filled(n)} }
func blank() api.Reply            { return api.Reply{Data: make([]byte, 128)} }
func no(code api.Errno) api.Reply { return api.Reply{Code: code} }
func same(a, b api.Reply) bool    { return a.Code == b.Code && bytes.Equal(a.Data, b.Data) }

// sameJob: are two jobs the same?
func sameJob(a, b api.Job) bool {
	return a.Kind == b.Kind && a.At == b.At && a.Keep == b.Keep && bytes.Equal(a.Data, b.Data)
}

// sized: so many bytes.
func sized(n int) []byte {
	return slices.Repeat([]byte{7}, n)
}

// noPlaces: of no sector of a drive.
func noPlaces(size int) []int {
	return []int{least, least + 1, -1 << 32, -size, -1, size, size + 1, 1 << 32, most - 1, most}
}

// noSizes: of no drive.
func noSizes() []int {
	return []int{least, least + 1, -1 << 32, -512, -1, 0, 513, 514, 1024, 1<<32 + 1, most - 1, most}
}

// noData: of no sector.
func noData() [][]byte {
	return [][]byte{nil, {}, sized(1), sized(127), sized(129), sized(256)}
}

// noKinds: of no job.
func noKinds() []int {
	return []int{least, least + 1, -1 << 32, -2, -1, 0, 9, 10, 1 << 8, 1<<32 + 1, most}
}

// kinds: of jobs.
func kinds() []int {
	return []int{api.Put, api.Get, api.Flush, api.Crash, api.Break, api.Rot, api.Fail, api.Renew}
}

// ofSector: does a kind name a sector, by the words of P9.1?
func ofSector(kind int) bool {
	return slices.Contains([]int{api.Put, api.Get, api.Break, api.Rot}, kind)
}

// ofData: does a kind name a sector's bytes, by the words of P9.1?
func ofData(kind int) bool {
	return slices.Contains([]int{api.Put, api.Rot}, kind)
}

// step: a job, and what it should come to.
type step struct {
	job  api.Job
	want api.Reply
}

// one: a step.
func one(j api.Job, r api.Reply) step {
	return step{j, r}
}

// script: steps of several lists, one behind the other.
func script(l ...[]step) []step {
	return slices.Concat(l...)
}

// wantSteps: do jobs come to this, and stay as they were?
func wantSteps(t *testing.T, what string, size int, l []step) {
	t.Helper()
	var jobs, was []api.Job
	for _, s := range l {
		jobs = append(jobs, s.job)
		s.job.Data = slices.Clone(s.job.Data)
		was = append(was, s.job)
	}
	told, code := Play(size, jobs)
	if code != api.OK || len(told) != len(l) {
		t.Fatalf("Play %s: %d replies to %d jobs, %d", what, len(told), len(l), code)
	}
	for i, s := range l {
		if !same(told[i], s.want) {
			t.Errorf("Play %s: job %d (kind %d at %d): %v, want %v", what, i, s.job.Kind, s.job.At, told[i], s.want)
		}
	}
	if !slices.EqualFunc(was, jobs, sameJob) {
		t.Errorf("Play %s changed the jobs", what)
	}
}

// wantNone: is a play refused so?
func wantNone(t *testing.T, what string, size int, l []api.Job, errno api.Errno) {
	t.Helper()
	if told, code := Play(size, l); len(told) != 0 || code != errno {
		t.Errorf("Play %s: %d replies, %d, want none and %d", what, len(told), code, errno)
	}
}

// P9.1

func TestSizes(t *testing.T) {
	if api.MaxDrive != 512 || api.SectorSize != 128 || api.MaxDeeds != 300 {
		t.Errorf("limits: %d %d %d", api.MaxDrive, api.SectorSize, api.MaxDeeds)
	}
	for _, size := range noSizes() {
		wantNone(t, "of no size", size, nil, api.ErrRange)
		wantNone(t, "of no size", size, []api.Job{flush(), renew()}, api.ErrRange)
		wantNone(t, "of no size and no kind", size, []api.Job{{Kind: 9}}, api.ErrRange)
	}
	for _, size := range []int{1, 2, 3, 511, 512} {
		wantNone(t, "of no jobs", size, nil, api.OK)
		wantNone(t, "of no jobs", size, []api.Job{}, api.OK)
		wantSteps(t, "of a size", size, []step{
			{get(0), blank()},
			{get(size - 1), blank()},
			{get(size), no(api.ErrRange)},
			{put(size-1, 1), done()},
			{put(size, 2), no(api.ErrRange)},
			{flush(), done()},
			{broken(size), no(api.ErrRange)},
			{rot(size, 3), no(api.ErrRange)},
			{get(size - 1), has(1)},
		})
	}
}

func TestHowManyJobs(t *testing.T) {
	for _, n := range []int{299, 300} {
		told, code := Play(1, slices.Repeat([]api.Job{flush()}, n))
		if code != api.OK || !slices.EqualFunc(told, slices.Repeat([]api.Reply{done()}, n), same) {
			t.Errorf("Play of %d jobs: %d replies, %d", n, len(told), code)
		}
	}
	for _, n := range []int{301, 302, 600, 70000} {
		l := slices.Repeat([]api.Job{flush()}, n)
		wantNone(t, "of too many jobs", 1, l, api.ErrSize)
		wantNone(t, "of too many jobs, of no kind", 512, make([]api.Job, n), api.ErrSize)
		for _, size := range noSizes() {
			wantNone(t, "of too many jobs and no size", size, l, api.ErrRange)
		}
	}
}

// All sectors are 0 at first, and none of them is broken.
func TestAtFirst(t *testing.T) {
	var l []step
	for at := range 300 {
		l = append(l, one(get(at+212), blank()))
	}
	wantSteps(t, "of a new drive", 512, l)
	wantSteps(t, "of a new drive", 300, []step{{flush(), done()}, {get(0), blank()}, {crash(-1), done()}, {get(299), blank()}})
}

// What is not named of a reply is zero; fields of a job that its kind does not name are not looked at.
func TestNotNamed(t *testing.T) {
	for _, kind := range kinds() {
		for _, at := range []int{2, -1, 4, least, most} {
			for _, data := range append(noData(), filled(5)) {
				if ofSector(kind) && at != 2 || ofData(kind) && len(data) != 128 {
					continue
				}
				for _, keep := range []int{0, 1, -1, least, most} {
					want := done()
					if kind == api.Get {
						want = blank()
					}
					wantSteps(t, "of one job", 4, []step{{api.Job{Kind: kind, At: at, Keep: keep, Data: data}, want}})
				}
			}
		}
	}
}

func TestNoKind(t *testing.T) {
	for _, kind := range noKinds() {
		for _, j := range []api.Job{{}, {At: 1}, {At: -1}, {At: most}, {Data: sized(128)}, {At: 9, Data: sized(127), Keep: -1}} {
			j.Kind = kind
			wantSteps(t, "of no kind", 3, []step{
				{put(1, 7), done()},
				{j, no(api.ErrKind)},
				{get(1), has(7)},
				{flush(), done()},
				{j, no(api.ErrKind)},
				{fail(), done()},
				{j, no(api.ErrKind)},
				{get(1), no(api.ErrDead)},
				{renew(), done()},
				{j, no(api.ErrKind)},
				{get(1), blank()},
			})
		}
	}
}

func TestNoSector(t *testing.T) {
	for _, size := range []int{1, 5, 512} {
		for _, at := range noPlaces(size) {
			wantSteps(t, "of no sector", size, []step{
				{put(0, 1), done()},
				{put(at, 2), no(api.ErrRange)},
				{get(at), no(api.ErrRange)},
				{broken(at), no(api.ErrRange)},
				{rot(at, 3), no(api.ErrRange)},
				{api.Job{Kind: api.Put, At: at}, no(api.ErrRange)},
				{api.Job{Kind: api.Rot, At: at, Data: sized(129)}, no(api.ErrRange)},
				{get(0), has(1)},
				{crash(1), done()},
				{get(0), has(1)},
			})
		}
	}
}

// Behind a job of no sector, each sector is as it was.
func TestNoSectorTouched(t *testing.T) {
	for _, at := range noPlaces(3) {
		for _, j := range []api.Job{put(at, 2), broken(at), rot(at, 3)} {
			wantSteps(t, "of no sector", 3, []step{
				{j, no(api.ErrRange)},
				{flush(), done()},
				{get(0), blank()},
				{get(1), blank()},
				{get(2), blank()},
			})
		}
	}
}

// What has not a sector's bytes is neither put nor does a sector rot to it.
func TestNoData(t *testing.T) {
	for _, data := range noData() {
		short := api.Job{Kind: api.Put, At: 1, Data: data}
		rotten := api.Job{Kind: api.Rot, At: 1, Data: data}
		wantSteps(t, "of no sector's bytes", 3, []step{
			{short, no(api.ErrSize)},
			{get(1), blank()},
			{put(1, 9), done()},
			{short, no(api.ErrSize)},
			{get(1), has(9)},
			{flush(), done()},
			{rotten, no(api.ErrSize)},
			{get(1), has(9)},
			{broken(1), done()},
			{rotten, no(api.ErrSize)},
			{get(1), no(api.ErrLost)},
			{short, no(api.ErrSize)},
			{crash(-1), done()},
			{get(1), no(api.ErrLost)},
		})
	}
}

// A job that was refused has no number among what waits.
func TestRefusedDoesNotWait(t *testing.T) {
	wantSteps(t, "of jobs that are refused", 3, []step{
		{put(3, 1), no(api.ErrRange)},
		{api.Job{Kind: api.Put, At: 0, Data: sized(127)}, no(api.ErrSize)},
		{put(0, 2), done()},
		{put(-1, 3), no(api.ErrRange)},
		{api.Job{Kind: 9, Data: sized(128)}, no(api.ErrKind)},
		{put(1, 4), done()},
		{crash(2), done()},
		{get(0), blank()},
		{get(1), has(4)},
	})
}

func TestDead(t *testing.T) {
	for _, kind := range append(noKinds(), kinds()...) {
		for _, at := range []int{1, 0, -1, 3, least, most} {
			for _, data := range append(noData(), filled(5)) {
				j := api.Job{Kind: kind, At: at, Keep: -1, Data: data}
				want := no(api.ErrDead)
				behind := no(api.ErrDead)
				if slices.Contains(noKinds(), kind) {
					want = no(api.ErrKind)
				} else if kind == api.Renew {
					want, behind = done(), blank()
				}
				wantSteps(t, "of a dead drive", 3, []step{
					{put(1, 1), done()},
					{flush(), done()},
					{put(1, 2), done()},
					{fail(), done()},
					{j, want},
					{get(1), behind},
				})
			}
		}
	}
}

// Which error is told where several hold, as they are named: ErrKind, ErrDead, ErrRange, ErrSize.
func TestWhichError(t *testing.T) {
	for _, kind := range append(noKinds(), kinds()...) {
		for _, dead := range []bool{false, true} {
			for _, at := range []int{0, 2, -1, 3} {
				for _, size := range []int{128, 0, 127, 129} {
					want := api.OK
					switch {
					case kind < 1 || kind > 8:
						want = api.ErrKind
					case dead && kind != api.Renew:
						want = api.ErrDead
					case ofSector(kind) && (at < 0 || at > 2):
						want = api.ErrRange
					case ofData(kind) && size != 128:
						want = api.ErrSize
					}
					l := []api.Job{{Kind: kind, At: at, Data: sized(size)}}
					if dead {
						l = append([]api.Job{fail()}, l...)
					}
					told, code := Play(3, l)
					if code != api.OK || len(told) != len(l) || told[len(l)-1].Code != want {
						t.Errorf("Play of kind %d at %d, %d bytes, dead %v: %v %d, want %d", kind, at, size, dead, told, code, want)
					}
				}
			}
		}
	}
}

// room: spare bytes behind a list, or spare jobs.
const room = 40

// roomy: bytes with spare room behind them, all of it 99.
func roomy(b []byte) []byte {
	return append(slices.Clone(b), slices.Repeat([]byte{99}, room)...)[:len(b)]
}

// What was handed in is left as it was, its spare room too, and shares no memory with what is told.
func TestLeftAsItWas(t *testing.T) {
	all := []api.Job{put(0, 1), get(0), rot(1, 2), get(1), broken(0), put(0, 3), crash(1), get(0), flush(), fail(), get(0), renew(), get(0)}
	n := len(all)
	all = append(all, slices.Repeat([]api.Job{{Kind: 77, At: 78, Keep: 79}}, room)...)
	var was []api.Job
	for i := range all {
		all[i].Data = roomy(all[i].Data)
		was = append(was, all[i])
		was[i].Data = slices.Clone(all[i].Data[:len(all[i].Data)+room])
	}
	told, code := Play(2, all[:n])
	if code != api.OK || len(told) != n {
		t.Fatalf("Play: %d replies, %d", len(told), code)
	}
	for _, r := range append(told, slices.Repeat([]api.Reply{no(88)}, room)...) {
		whole := r.Data[:cap(r.Data)]
		for k := range whole {
			whole[k] = 55
		}
	}
	for i := range all {
		all[i].Data = all[i].Data[:len(all[i].Data)+room]
	}
	if !slices.EqualFunc(was, all, sameJob) {
		t.Error("Play changed the jobs, or what it told shares memory with them")
	}
}

// What is told is not changed by what is done behind it, nor by who writes into another answer.
func TestToldIsNew(t *testing.T) {
	l := []step{
		{put(0, 1), done()}, {get(0), has(1)}, {get(0), has(1)},
		{put(0, 2), done()}, {get(0), has(2)},
		{flush(), done()}, {get(0), has(2)}, {get(0), has(2)},
		{rot(0, 3), done()}, {get(0), has(3)},
		{put(0, 4), done()}, {crash(1), done()}, {get(0), has(4)},
		{renew(), done()}, {get(0), blank()}, {get(0), blank()}, {get(1), blank()},
	}
	wantSteps(t, "of gets with other jobs behind them", 2, l)
	var jobs []api.Job
	for _, s := range l {
		jobs = append(jobs, s.job)
	}
	told, _ := Play(2, jobs)
	again, _ := Play(2, jobs)
	for i := range told {
		b := told[i].Data
		b = b[:cap(b)]
		for k := range b {
			b[k] ^= 0xff
		}
		told[i].Data = nil
		for k := i + 1; k < len(told); k++ {
			if !same(told[k], l[k].want) {
				t.Fatalf("reply %d shares memory with reply %d", k, i)
			}
		}
		for k := range again {
			if !same(again[k], l[k].want) {
				t.Fatalf("reply %d shares memory with reply %d of another answer", k, i)
			}
		}
	}
}

// Data that are handed in twice are two sectors' own.
func TestSameDataTwice(t *testing.T) {
	b := filled(6)
	wantSteps(t, "of one list of bytes", 3, []step{
		{api.Job{Kind: api.Put, At: 0, Data: b}, done()},
		{api.Job{Kind: api.Rot, At: 1, Data: b}, done()},
		{flush(), done()},
		{put(0, 7), done()},
		{flush(), done()},
		{get(0), has(7)},
		{get(1), has(6)},
	})
}

// Nothing is kept from call to call.
func TestNothingKept(t *testing.T) {
	wantSteps(t, "at first", 2, []step{{put(0, 1), done()}, {flush(), done()}, {put(1, 2), done()}, {broken(0), done()}, {fail(), done()}})
	wantSteps(t, "again", 2, []step{{get(0), blank()}, {get(1), blank()}, {flush(), done()}, {get(1), blank()}})
}

// P9.2

func TestPutAndGet(t *testing.T) {
	var many []step
	for i := range 100 {
		many = append(many, one(put(3, i), done()), one(get(3), has(i)), one(get(4), blank()))
	}
	wantSteps(t, "of one sector many times", 5, many)
	var several []step
	for i := range 75 {
		several = append(several, one(put(i%7, i), done()), one(put(511-i%5, 1000+i), done()))
	}
	for at := range 7 {
		several = append(several, one(get(at), has((74-at)/7*7+at)))
	}
	for k := range 5 {
		several = append(several, one(get(511-k), has(1000+70+k)))
	}
	several = append(several, one(get(7), blank()), one(get(506), blank()))
	wantSteps(t, "of several sectors", 512, several)
}

// Of what waits the last is told, ahead of what the plate has.
func TestGetWhatWaits(t *testing.T) {
	wantSteps(t, "of what waits", 3, []step{
		{put(0, 1), done()},
		{flush(), done()},
		{get(0), has(1)},
		{put(0, 2), done()},
		{put(1, 3), done()},
		{get(0), has(2)},
		{put(0, 4), done()},
		{put(2, 5), done()},
		{get(0), has(4)},
		{get(1), has(3)},
		{get(2), has(5)},
		{crash(0), done()},
		{get(0), has(1)},
		{get(1), blank()},
		{get(2), blank()},
	})
}

// All bytes of a sector are kept as they are.
func TestAllBytes(t *testing.T) {
	s := seed(5)
	for range 50 {
		b := make([]byte, 128)
		for i := range b {
			b[i] = byte(s.next())
		}
		wantSteps(t, "of all bytes", 1, []step{
			{api.Job{Kind: api.Put, Data: b}, done()},
			{get(0), api.Reply{Data: b}},
			{flush(), done()},
			{get(0), api.Reply{Data: b}},
			{put(0, 1), done()},
			{flush(), done()},
			{api.Job{Kind: api.Rot, Data: b}, done()},
			{get(0), api.Reply{Data: b}},
		})
	}
}

func TestFlush(t *testing.T) {
	wantSteps(t, "of a flush", 3, []step{
		{put(0, 1), done()},
		{put(1, 2), done()},
		{put(0, 3), done()},
		{flush(), done()},
		{get(0), has(3)},
		{get(1), has(2)},
		{crash(0), done()}, // nothing waits any more
		{get(0), has(3)},
		{get(1), has(2)},
		{put(1, 4), done()},
		{crash(0), done()},
		{flush(), done()}, // what is gone does not come any more
		{get(1), has(2)},
		{rot(0, 5), done()},
		{flush(), done()}, // what was flushed does not come again
		{flush(), done()},
		{get(0), has(5)},
		{crash(-1), done()},
		{get(0), has(5)},
	})
}

// A sector onto which something comes is not broken any more; one onto which nothing comes is.
func TestFlushHeals(t *testing.T) {
	wantSteps(t, "of a flush onto broken sectors", 4, []step{
		{put(0, 1), done()},
		{put(1, 2), done()},
		{flush(), done()},
		{broken(0), done()},
		{broken(1), done()},
		{broken(2), done()},
		{put(0, 3), done()},
		{put(3, 4), done()},
		{flush(), done()},
		{get(0), has(3)},
		{get(1), no(api.ErrLost)},
		{get(2), no(api.ErrLost)},
		{get(3), has(4)},
		{flush(), done()},
		{get(1), no(api.ErrLost)},
		{put(1, 2), done()}, // with what it had
		{flush(), done()},
		{get(1), has(2)},
	})
}

// waits: one put each of so many sectors, from 0 on.
func waits(n int) []step {
	var l []step
	for i := range n {
		l = append(l, one(put(i, 100+i), done()))
	}
	return l
}

// found: the gets of so many sectors of which some have what was put, and the others what they had.
func found(n int, kept func(k int) bool, other api.Reply) []step {
	var l []step
	for i := range n {
		want := other
		if kept(i) {
			want = has(100 + i)
		}
		l = append(l, one(get(i), want))
	}
	return l
}

// However many wait, a flush brings all of them.
func TestFlushMany(t *testing.T) {
	all := func(int) bool { return true }
	for _, n := range []int{61, 62, 63, 64, 65, 124, 125, 140} {
		wantSteps(t, "of a flush of many", 200, script(waits(n), []step{{flush(), done()}, {crash(0), done()}}, found(n, all, blank())))
	}
}

func TestCrashAllOrNone(t *testing.T) {
	all := func(int) bool { return true }
	none := func(int) bool { return false }
	for _, n := range []int{0, 1, 2, 61, 62, 63, 64, 65, 124, 125, 140} {
		wantSteps(t, "of a crash with nothing kept", 200, script(waits(n), []step{{crash(0), done()}}, found(n+1, none, blank())))
		for _, keep := range []int{-1, 1<<62 - 1, most, -1 - 1<<62} {
			wantSteps(t, "of a crash with all kept", 200, script(waits(n), []step{{crash(keep), done()}}, found(n, all, blank()), []step{{get(n), blank()}}))
		}
		for _, keep := range []int{least, 1 << 62, least + 1<<62} { // none of the 62 bits
			wantSteps(t, "of a crash with nothing kept", 200, script(waits(n), []step{{crash(keep), done()}}, found(n, none, blank())))
		}
	}
}

// Each bit alone, and each but one; there are more than 62 that wait, so that each bit is of two or three of them.
func TestCrashEachBit(t *testing.T) {
	for bit := range 62 {
		alone := func(k int) bool { return k == bit || k == bit+62 || k == bit+124 }
		but := func(k int) bool { return !alone(k) }
		for _, high := range []int{0, 1 << 62, least, least + 1<<62} {
			wantSteps(t, "of a crash with one bit", 200, script(waits(130), []step{{crash(1<<bit | high), done()}}, found(130, alone, blank())))
			wantSteps(t, "of a crash with all bits but one", 200, script(waits(130), []step{{crash((1<<62 - 1 - 1<<bit) | high), done()}}, found(130, but, blank())))
		}
		wantSteps(t, "of a crash with one bit and few", 200, script(waits(bit+1), []step{{crash(1 << bit), done()}}, found(bit+1, alone, blank())))
		wantSteps(t, "of a crash with one bit and fewer", 200, script(waits(bit), []step{{crash(1 << bit), done()}}, found(bit, func(int) bool { return false }, blank())))
	}
}

func TestCrashBelow0(t *testing.T) {
	for _, c := range []struct {
		keep int
		kept []int // of the first six
	}{
		{-1, []int{0, 1, 2, 3, 4, 5}},
		{-2, []int{1, 2, 3, 4, 5}},
		{-3, []int{0, 2, 3, 4, 5}},
		{-4, []int{2, 3, 4, 5}},
		{-17, []int{0, 1, 2, 3, 5}},
		{-22, []int{1, 3, 5}},
		{-64, nil},
		{least, nil},
		{least + 5, []int{0, 2}},
	} {
		wantSteps(t, "of a crash with Keep below 0", 8, script(waits(6), []step{{crash(c.keep), done()}}, found(6, func(k int) bool { return slices.Contains(c.kept, k) }, blank())))
	}
}

func TestCrashChance(t *testing.T) {
	s := seed(6)
	for range 300 {
		keep := s.next()
		bit := func(k int) bool {
			n := uint64(keep)
			for range k % 62 {
				n /= 2
			}
			return n%2 == 1
		}
		wantSteps(t, "of a crash by chance", 200, script(waits(130), []step{{crash(keep), done()}}, found(130, bit, blank())))
	}
}

// What comes onto the plate comes in its order; what does not leaves what was there, broken or not.
func TestCrashOrder(t *testing.T) {
	for _, c := range []struct {
		keep int
		want api.Reply
	}{
		{0, has(1)}, {1, has(2)}, {2, has(3)}, {3, has(3)}, {4, has(4)}, {5, has(4)}, {6, has(4)}, {7, has(4)}, {8, has(1)}, {9, has(2)}, {-8, has(1)}, {-6, has(3)},
	} {
		puts := []step{{put(0, 2), done()}, {put(0, 3), done()}, {put(0, 4), done()}, {get(0), has(4)}, {crash(c.keep), done()}}
		wantSteps(t, "of a crash with several of one sector", 2, script(
			[]step{{put(0, 1), done()}, {flush(), done()}}, puts, []step{{get(0), c.want}, {get(1), blank()}}))
		want := c.want
		if same(want, has(1)) {
			want = no(api.ErrLost)
		}
		wantSteps(t, "of a crash with several of one broken sector", 2, script(
			[]step{{put(0, 1), done()}, {flush(), done()}, {broken(0), done()}}, puts, []step{{get(0), want}, {get(1), blank()}}))
	}
}

// Two puts of one sector, of which the first alone is kept; numbers are those of all that waits, not of one sector's.
func TestCrashFirstAlone(t *testing.T) {
	wantSteps(t, "of a crash with the first kept", 3, []step{
		{put(1, 1), done()},
		{put(1, 2), done()},
		{crash(1), done()},
		{get(1), has(1)},
		{put(0, 3), done()},
		{put(1, 4), done()},
		{put(0, 5), done()},
		{put(1, 6), done()},
		{crash(6), done()},
		{get(0), has(5)},
		{get(1), has(4)},
	})
}

// Behind a crash nothing waits, and what waits then is counted from 0 on.
func TestCrashEndsWaiting(t *testing.T) {
	wantSteps(t, "of crashes", 3, []step{
		{put(0, 1), done()},
		{put(1, 2), done()},
		{crash(2), done()},
		{crash(-1), done()},
		{flush(), done()},
		{get(0), blank()},
		{get(1), has(2)},
		{put(2, 3), done()},
		{rot(1, 4), done()},
		{crash(1), done()},
		{get(2), has(3)},
		{get(1), has(4)},
		{flush(), done()},
		{put(0, 5), done()},
		{flush(), done()},
		{put(0, 6), done()},
		{crash(1), done()},
		{get(0), has(6)},
	})
}

func TestBreak(t *testing.T) {
	wantSteps(t, "of a break while nothing waits", 3, []step{
		{broken(0), done()},
		{get(0), no(api.ErrLost)},
		{get(1), blank()},
		{broken(0), done()},
		{get(0), no(api.ErrLost)},
		{flush(), done()},
		{get(0), no(api.ErrLost)},
		{crash(-1), done()},
		{get(0), no(api.ErrLost)},
		{put(0, 1), done()},
		{get(0), has(1)},
		{crash(0), done()},
		{get(0), no(api.ErrLost)},
		{put(0, 2), done()},
		{crash(1), done()},
		{get(0), has(2)},
	})
	wantSteps(t, "of a break while something waits", 3, []step{
		{put(0, 1), done()},
		{put(1, 2), done()},
		{broken(0), done()},
		{get(0), has(1)}, // what waits is not touched
		{get(1), has(2)},
		{crash(2), done()},
		{get(0), no(api.ErrLost)},
		{get(1), has(2)},
		{put(0, 3), done()},
		{broken(0), done()},
		{flush(), done()},
		{get(0), has(3)},
		{put(1, 4), done()}, // something waits, but of another sector
		{broken(0), done()},
		{get(0), no(api.ErrLost)},
		{get(1), has(4)},
	})
}

func TestRot(t *testing.T) {
	wantSteps(t, "of a rot while nothing waits", 3, []step{
		{rot(0, 1), done()},
		{get(0), has(1)},
		{get(1), blank()},
		{crash(0), done()}, // it is on the plate
		{get(0), has(1)},
		{broken(0), done()},
		{rot(0, 2), done()},
		{get(0), has(2)},
		{broken(1), done()},
		{rot(2, 3), done()},
		{get(1), no(api.ErrLost)},
		{get(2), has(3)},
	})
	wantSteps(t, "of a rot while something waits", 3, []step{
		{put(0, 1), done()},
		{rot(0, 2), done()},
		{get(0), has(1)}, // what waits is not touched
		{crash(0), done()},
		{get(0), has(2)},
		{put(0, 3), done()},
		{rot(0, 4), done()},
		{flush(), done()},
		{get(0), has(3)},
		{put(1, 5), done()},
		{put(0, 6), done()},
		{rot(1, 7), done()}, // has no number among what waits
		{crash(2), done()},
		{get(0), has(6)},
		{get(1), has(7)},
		{put(0, 8), done()},
		{broken(0), done()},
		{rot(0, 9), done()},
		{crash(0), done()},
		{get(0), has(9)},
	})
}

func TestFailAndRenew(t *testing.T) {
	had := []step{
		{put(0, 1), done()},
		{put(1, 2), done()},
		{flush(), done()},
		{broken(1), done()},
		{broken(2), done()},
		{put(0, 3), done()},
		{put(1, 4), done()},
		{put(3, 5), done()},
	}
	dead := []step{
		{fail(), done()},
		{put(0, 6), no(api.ErrDead)},
		{get(0), no(api.ErrDead)},
		{flush(), no(api.ErrDead)},
		{crash(-1), no(api.ErrDead)},
		{broken(0), no(api.ErrDead)},
		{rot(0, 7), no(api.ErrDead)},
		{fail(), no(api.ErrDead)},
	}
	anew := []step{
		{renew(), done()},
		{get(0), blank()},
		{get(1), blank()},
		{get(2), blank()},
		{get(3), blank()},
		{get(4), no(api.ErrRange)},
	}
	settled := []step{
		{get(0), blank()},
		{get(1), blank()},
		{get(2), blank()},
		{get(3), blank()},
		{put(3, 8), done()},
		{crash(1), done()},
		{get(3), has(8)},
		{broken(3), done()},
		{get(3), no(api.ErrLost)},
	}
	for _, end := range []api.Job{flush(), crash(-1), crash(0)} {
		behind := script([]step{one(end, done())}, settled)
		wantSteps(t, "of a dead drive that is renewed", 4, script(had, dead, anew, behind))
		wantSteps(t, "of a drive that is renewed", 4, script(had, anew, behind))
		wantSteps(t, "of a drive that is renewed twice", 4, script(had, anew, anew, behind, anew, dead, anew, behind))
	}
}

// plain: a drive by the words of P9.2, as a list of sectors, each with what it was put by number. count: how many wait in all.
type plain struct {
	sectors []plainSector
	count   int
	dead    bool
}

type plainSector struct {
	has    []byte
	broken bool
	puts   map[int][]byte // by their numbers
}

func newPlain(size int) *plain {
	p := &plain{sectors: make([]plainSector, size)}
	for i := range p.sectors {
		p.sectors[i] = plainSector{has: make([]byte, 128), puts: map[int][]byte{}}
	}
	return p
}

// last: what waits with the greatest number, of those that count; nil: nothing.
func (s *plainSector) last(counts func(number int) bool) []byte {
	var b []byte
	greatest := -1
	for number, data := range s.puts {
		if number > greatest && counts(number) {
			greatest, b = number, data
		}
	}
	return b
}

// settle: of each sector the last that counts comes onto the plate.
func (p *plain) settle(counts func(number int) bool) {
	for i := range p.sectors {
		s := &p.sectors[i]
		if b := s.last(counts); b != nil {
			s.has, s.broken = b, false
		}
		s.puts = map[int][]byte{}
	}
	p.count = 0
}

func (p *plain) do(j api.Job) api.Reply {
	switch {
	case j.Kind < 1 || j.Kind > 8:
		return no(api.ErrKind)
	case p.dead && j.Kind != api.Renew:
		return no(api.ErrDead)
	case ofSector(j.Kind) && (j.At < 0 || j.At >= len(p.sectors)):
		return no(api.ErrRange)
	case ofData(j.Kind) && len(j.Data) != 128:
		return no(api.ErrSize)
	}
	all := func(int) bool { return true }
	switch j.Kind {
	case api.Put:
		p.sectors[j.At].puts[p.count] = slices.Clone(j.Data)
		p.count++
	case api.Get:
		s := &p.sectors[j.At]
		if b := s.last(all); b != nil {
			return api.Reply{Data: slices.Clone(b)}
		}
		if s.broken {
			return no(api.ErrLost)
		}
		return api.Reply{Data: slices.Clone(s.has)}
	case api.Flush:
		p.settle(all)
	case api.Crash:
		p.settle(func(number int) bool { return uint64(j.Keep)&(1<<(number%62)) != 0 })
	case api.Break:
		p.sectors[j.At].broken = true
	case api.Rot:
		p.sectors[j.At].has, p.sectors[j.At].broken = slices.Clone(j.Data), false
	case api.Fail:
		p.dead = true
	case api.Renew:
		*p = *newPlain(len(p.sectors))
	}
	return done()
}

// chance: a job; mostly a put or a get, seldom one that is refused. Sectors are few, or all of them.
func (s *seed) chance(size int) api.Job {
	j := api.Job{At: s.below(size), Keep: s.next(), Data: filled(s.below(1 << 16))}
	if s.below(2) == 0 {
		j.At = s.below(min(size, 3))
	}
	if s.below(4) == 0 {
		j.Keep = []int{0, -1, 1, 1 << s.below(62), least, most}[s.below(6)]
	}
	switch n := s.below(100); {
	case n < 40:
		j.Kind = api.Put
	case n < 75:
		j.Kind = api.Get
	case n < 79:
		j.Kind = api.Flush
	case n < 83:
		j.Kind = api.Crash
	case n < 89:
		j.Kind = api.Break
	case n < 93:
		j.Kind = api.Rot
	case n < 94:
		j.Kind = api.Renew
	case n < 95:
		j.Kind = []int{api.Fail, api.Renew}[s.below(2)]
	case n < 97:
		j.Kind, j.At = 1+s.below(8), noPlaces(size)[s.below(10)]
	case n < 99:
		j.Kind, j.Data = 1+s.below(8), noData()[s.below(6)]
	default:
		j.Kind = noKinds()[s.below(len(noKinds()))]
	}
	return j
}

// Jobs of all kinds, against the plain list of sectors.
func TestAgainstPlain(t *testing.T) {
	s := seed(9)
	for _, size := range []int{1, 2, 3, 8, 60, 511, 512} {
		for range 60 {
			p := newPlain(size)
			var l []step
			for range 1 + s.below(300) {
				j := s.chance(size)
				if p.dead && s.below(4) == 0 {
					j.Kind = api.Renew
				}
				l = append(l, one(j, p.do(j)))
			}
			wantSteps(t, "by chance", size, l)
		}
	}
}

// Long rows of what waits, so that the bits of Keep come round.
func TestLongRowsAgainstPlain(t *testing.T) {
	s := seed(10)
	for range 100 {
		size := 1 + s.below(40)
		p := newPlain(size)
		var l []step
		play := func(j api.Job) { l = append(l, one(j, p.do(j))) }
		for range 62 + s.below(150) {
			play(put(s.below(size), s.below(1<<16)))
		}
		for range 4 {
			play(broken(s.below(size)))
		}
		play(crash(s.next()))
		for at := range size {
			play(get(at))
		}
		wantSteps(t, "of long rows", size, l)
	}
}

// What comes of it: a sector has what it had when it was flushed, or what was put there since then, and nothing else.
func TestWhatComesOfIt(t *testing.T) {
	s := seed(11)
	for range 200 {
		size := 1 + s.below(10)
		flushed := make([]int, size)
		may := make([][]int, size)
		var l []api.Job
		for at := range size {
			flushed[at] = s.below(1 << 16)
			may[at] = []int{flushed[at]}
			l = append(l, put(at, flushed[at]))
		}
		l = append(l, flush())
		for range s.below(100) {
			at, n := s.below(size), s.below(1<<16)
			may[at] = append(may[at], n)
			l = append(l, put(at, n))
		}
		l = append(l, crash(s.next()))
		for at := range size {
			l = append(l, get(at))
		}
		told, code := Play(size, l)
		if code != api.OK || len(told) != len(l) {
			t.Fatalf("Play: %d replies to %d jobs, %d", len(told), len(l), code)
		}
		for at, x := range told[len(l)-size:] {
			if !slices.ContainsFunc(may[at], func(n int) bool { return same(x, has(n)) }) {
				t.Errorf("sector %d has %v: it never had that", at, x)
			}
		}
	}
}

// What holds everywhere: whatever the jobs are, a call ends and answers each of them.
func TestWhateverJobs(t *testing.T) {
	s := seed(12)
	for range 2000 {
		var l []api.Job
		for range s.below(40) {
			l = append(l, api.Job{Kind: s.below(12) - 1, At: []int{s.next(), s.below(600), 0}[s.below(3)], Keep: s.next(), Data: sized([]int{128, s.below(300)}[s.below(2)])})
		}
		size := []int{s.next(), 1 + s.below(512)}[s.below(2)]
		told, code := Play(size, l)
		if size < 1 || size > 512 {
			if code != api.ErrRange || len(told) != 0 {
				t.Errorf("Play at size %d: %d", size, code)
			}
		} else if code != api.OK || len(told) != len(l) {
			t.Errorf("Play at size %d: %d replies to %d jobs, %d", size, len(told), len(l), code)
		}
	}
}
