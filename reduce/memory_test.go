package reduce

import (
	"fmt"
	"math/rand"
	"runtime"
	"slices"
	"strings"
	"sync"
	"testing"
	"unsafe"

	"winnow/api"
	"winnow/foot"
	"winnow/spill"
	"winnow/store"
)

// 18.7

// loose tells a text whose bytes may be changed: whoever has kept it shows that.
func loose(text string) (string, []byte) {
	b := []byte(text)
	return unsafe.String(unsafe.SliceData(b), len(b)), b
}

func spoil(all ...[]byte) {
	for _, b := range all {
		for i := range b {
			b[i] = '#'
		}
	}
}

// looseAttempt tells the same attempt, whose texts may be changed, and their bytes.
func looseAttempt(a attempt) (attempt, [][]byte) {
	out, b := loose(a.out)
	a.out = out
	all := [][]byte{b}
	a.spills = slices.Clone(a.spills)
	for i := range a.spills {
		name, b := loose(a.spills[i].Name)
		a.spills[i].Name = name
		all = append(all, b)
	}
	bounds := make([]string, 3)
	for i := range bounds {
		bound, b := loose(fmt.Sprint("bound", i))
		bounds[i] = bound
		all = append(all, b)
	}
	a.job.Bounds = bounds
	return a, all
}

// randomCase tells an attempt that may end in any way.
func randomCase(t *testing.T, random *rand.Rand) (*store.Store, attempt) {
	t.Helper()
	s, a, _ := randomAttempt(t, random)
	switch random.Intn(4) {
	case 0:
		a = a.stoppedAt(int64(random.Intn(300)))
	case 1:
		damageMany(t, random, s, a)
	case 2:
		leave(t, s, a.name(), true)
	}
	return s, a
}

// Neither a list, nor the room behind it, nor any text is changed.
func TestNothingIsChanged(t *testing.T) {
	random := rand.New(rand.NewSource(187))
	for range 300 {
		s, a := randomCase(t, random)
		handed, all := looseAttempt(a)
		before := make([]string, len(all))
		for i, b := range all {
			before[i] = string(b)
		}
		reports := append(slices.Clone(handed.spills), api.Report{Name: "room"}, api.Report{Task: 7})
		bounds := append(slices.Clone(handed.job.Bounds), "room", "a")
		reportsBefore, boundsBefore := slices.Clone(reports), slices.Clone(bounds)
		handed.spills, handed.job.Bounds = reports[:len(reports)-2], bounds[:len(bounds)-2]
		handed.run(s)
		isSame(t, "the reports and their room", reports, reportsBefore)
		isSame(t, "the bounds and their room", bounds, boundsBefore)
		for i, b := range all {
			if string(b) != before[i] {
				t.Fatalf("a text has become %q, and was %q", b, before[i])
			}
		}
	}
}

// What was handed in may be changed behind the call: neither the verdict nor the store shows it.
func TestNothingIsKept(t *testing.T) {
	random := rand.New(rand.NewSource(1871))
	for range 300 {
		s, a := randomCase(t, random)
		twin := copyOf(t, s)
		handed, all := looseAttempt(a)
		verdict, err := handed.run(s)
		spoil(all...)
		clear(handed.spills)
		clear(handed.job.Bounds)
		want, wantErr := a.plainRun(t, twin)
		isVerdict(t, a.String(), verdict, err, want, wantErr)
		isSame(t, "blobs", s.List(""), twin.List(""))
		for _, b := range s.List("") {
			if b.State == api.BlobOut {
				isSame(t, b.Name, bytesOf(t, s, b.Name), bytesOf(t, twin, b.Name))
			}
		}
	}
}

func TestNamesAreNew(t *testing.T) {
	out, b := loose("wc")
	name := Name(out, 3, 0)
	spoil(b)
	if name != "wc.r3.0" {
		t.Errorf("behind a change: %q", name)
	}
}

// Nothing else is read: each spill's end once, and the blocks of the partition, once to look at them, and once to merge them.
func TestWhatIsRead(t *testing.T) {
	random := rand.New(rand.NewSource(1872))
	for range 200 {
		s, a, _ := randomAttempt(t, random)
		leave(t, s, "other", true)
		want := s.Meter()
		for _, report := range a.spills {
			want = readingsOf(t, s, report, a.task, want)
		}
		before := s.Meter()
		a.run(s)
		got := s.Meter()
		got.Reads -= before.Reads
		got.Bytes -= before.Bytes
		if got != want {
			t.Fatalf("%s: it has read %+v, and not %+v", a, got, want)
		}
	}
}

// readingsOf tells the readings of a spill beside those that are counted already.
func readingsOf(t *testing.T, s *store.Store, report api.Report, part int, m api.Meter) api.Meter {
	t.Helper()
	count := func(bytes, times int64) {
		m.Reads += times
		m.Bytes += times * bytes
		m.Greatest = max(m.Greatest, int(bytes))
	}
	r, err := spill.Open(s, report.Name, report.Length)
	isError(t, "Open", err, api.OK)
	f := r.Foot()
	for _, tile := range foot.Tiles(f) {
		if tile.Kind != api.TileBlock {
			count(tile.To-tile.From, 1)
		}
	}
	for _, info := range f.Infos {
		for _, b := range info.Blocks {
			if info.Part == part {
				count(int64(b.Stored)+5, 2)
			}
		}
	}
	return m
}

// Blame is told as soon as it is known: nothing is read behind the spill that is to blame, and no block as long as one is refused.
func TestWhatIsReadAheadOfBlame(t *testing.T) {
	s, a := attemptOver(t, threeSheets(3), 1)
	read := func() int64 {
		before := s.Meter().Bytes
		a.run(s)
		a.number++
		return s.Meter().Bytes - before
	}
	ends := make([]int64, 3)
	for i, report := range a.spills {
		for _, tile := range tilesOf(t, s, report) {
			if tile.Kind != api.TileBlock {
				ends[i] += tile.To - tile.From
			}
		}
	}
	isError(t, "Flip", s.Flip("o.m1.1", 8*(tilesOf(t, s, a.spills[1])[1].From), 1), api.OK)
	isError(t, "Resize", s.Resize("o.m2.1", 1), api.OK)
	if got := read(); got != ends[0]+ends[1] {
		t.Errorf("the last one has another length: %d bytes are read, and not %d", got, ends[0]+ends[1])
	}
	isError(t, "Resize", s.Resize("o.m0.1", 1), api.OK)
	if got := read(); got != 0 {
		t.Errorf("the first one has another length: %d bytes are read", got)
	}
}

// live tells how many bytes are held.
func live() int64 {
	runtime.GC()
	runtime.GC()
	var m runtime.MemStats
	runtime.ReadMemStats(&m)
	return int64(m.HeapAlloc)
}

// Behind an attempt, however it ended, there is the store, and nothing else.
func TestLittleIsKept(t *testing.T) {
	var sheets []sheet
	for range 20 {
		h := sheet{parts: 1, shape: api.Shape{Block: 4096, Restart: 16, Bits: 10}}
		for k := range 1000 {
			h.records = append(h.records, rec(0, fmt.Sprintf("key%05d", k), strings.Repeat("1", k%30)))
		}
		sheets = append(sheets, h)
	}
	s, a := attemptOver(t, sheets, 0)
	sheets = nil
	before := live()
	for number := range 10 {
		b := a
		b.number = number + 1
		b.out = strings.Repeat("o", 1<<20)[:2]
		b.spills = slices.Clone(a.spills)
		for i := range b.spills {
			name := b.spills[i].Name
			b.spills[i].Name = (name + strings.Repeat("o", 1<<16))[:len(name)]
		}
		if number%2 == 0 {
			b = b.stoppedAt(0)
		}
		verdict, err := b.run(s)
		isError(t, "Run", err, api.OK)
		if verdict.Kind == api.ReduceBlame {
			t.Fatalf("%+v", verdict)
		}
		isError(t, "Delete", s.Delete(b.name()), api.OK)
		b.spills[19].Length++
		verdict, err = b.run(s)
		isVerdict(t, "a blame", verdict, err, api.Verdict{Kind: api.ReduceBlame, Map: 19, Attempt: 1, Why: api.ErrLength}, api.OK)
	}
	if grown := live() - before; grown > 500<<10 {
		t.Errorf("%d bytes are kept", grown)
	}
	runtime.KeepAlive(s)
}

// Tasks at one time, over one store and the same spills, come to the same as one behind the other.
func TestManyAtOneTime(t *testing.T) {
	random := rand.New(rand.NewSource(1873))
	for range 20 {
		s := store.New()
		reports := layAll(t, s, randomSheets(random, 1+random.Intn(5), 8))
		attempts := make([]attempt, 16)
		verdicts := make([]api.Verdict, len(attempts))
		errs := make([]api.Errno, len(attempts))
		twin := copyOf(t, s)
		kind := random.Intn(5)
		var all sync.WaitGroup
		for i := range attempts {
			a := attempt{out: "o", job: api.Job{Kind: kind, Parts: 8}, task: i / 2, number: 1 + i%2, spills: reports}
			if random.Intn(4) == 0 {
				a = a.stoppedAt(int64(random.Intn(100)))
			}
			attempts[i] = a
			all.Add(1)
			go func() {
				defer all.Done()
				verdicts[i], errs[i] = a.run(s)
			}()
		}
		all.Wait()
		for i, a := range attempts {
			want, wantErr := a.plainRun(t, twin)
			isVerdict(t, a.String(), verdicts[i], errs[i], want, wantErr)
		}
		isSame(t, "blobs", s.List(""), twin.List(""))
		for _, b := range s.List("") {
			if b.State == api.BlobOut {
				isSame(t, b.Name, bytesOf(t, s, b.Name), bytesOf(t, twin, b.Name))
			}
		}
	}
}
