package fault

import (
	"math"
	"math/rand"
	"testing"

	"winnow/api"
)

// 16.1

func stop(kind, task, attempt int, at int64) api.Fault {
	return api.Fault{Kind: api.FaultStop, TaskKind: kind, Task: task, Attempt: attempt, At: at}
}

func flip(task, attempt, moment, reader int, at int64, mask uint32) api.Fault {
	return api.Fault{Kind: api.FaultFlip, Task: task, Attempt: attempt, Moment: moment, Reader: reader, At: at, Mask: mask}
}

func length(task, attempt, moment, reader int, at int64) api.Fault {
	return api.Fault{Kind: api.FaultLength, Task: task, Attempt: attempt, Moment: moment, Reader: reader, At: at}
}

func checks(t *testing.T, want api.Errno, l ...api.Fault) {
	t.Helper()
	if got := Check(l); got != want {
		t.Fatalf("Check of %s: error %d, and not %d", written(l), got, want)
	}
}

func TestCheckExamples(t *testing.T) {
	checks(t, api.ErrFault, stop(api.TaskMap, 3, 1, 0), stop(api.TaskMap, 3, 1, 0))
	checks(t, api.ErrFault, stop(api.TaskMap, 3, 1, 5), stop(api.TaskMap, 3, 1, 9))
	checks(t, api.OK, stop(api.TaskMap, 3, 1, 0), stop(api.TaskReduce, 3, 1, 0))
	checks(t, api.OK, flip(0, 1, api.MomentOut, 0, 0, 1))
	checks(t, api.ErrFault, flip(0, 1, api.MomentOut, 0, 0, 2))
	checks(t, api.ErrFault, flip(0, 0, api.MomentOut, 0, 0, 1))
	checks(t, api.ErrFault, flip(0, 1, api.MomentOut, 1, 0, 1))
	checks(t, api.ErrFault, length(0, 1, api.MomentOut, 0, 0))
	checks(t, api.ErrFault, length(0, 1, api.MomentOut, 0, 4097))
	checks(t, api.OK, length(0, 1, api.MomentOut, 0, -5))
	checks(t, api.OK, flip(0, 1, api.MomentOut, 0, 0, 1), length(0, 1, api.MomentOut, 0, -5))
}

// Each field's least and greatest number, and the ones beside them.
func TestCheckEdges(t *testing.T) {
	for _, c := range []struct {
		of    func(n int64) api.Fault
		least int64
		most  int64
	}{
		{func(n int64) api.Fault { return api.Fault{Kind: int(n), Attempt: 1} }, api.FaultStop, api.FaultStop},
		{func(n int64) api.Fault { return api.Fault{Kind: int(n), Attempt: 1, Mask: 1} }, api.FaultFlip, api.FaultFlip},
		{func(n int64) api.Fault { return api.Fault{Kind: int(n), Attempt: 1, At: -1} }, api.FaultLength, api.FaultLength},
		{func(n int64) api.Fault { return stop(int(n), 0, 1, 0) }, api.TaskMap, api.TaskReduce},
		{func(n int64) api.Fault { return stop(api.TaskMap, int(n), 1, 0) }, 0, 255},
		{func(n int64) api.Fault { return stop(api.TaskReduce, int(n), 1, 0) }, 0, 65534},
		{func(n int64) api.Fault { return stop(int(n), 256, 1, 0) }, api.TaskReduce, api.TaskReduce},
		{func(n int64) api.Fault { return stop(api.TaskMap, 0, int(n), 0) }, 1, 16},
		{func(n int64) api.Fault { return stop(api.TaskReduce, 0, int(n), 0) }, 1, 16},
		{func(n int64) api.Fault { return stop(api.TaskMap, 0, 1, n) }, 0, math.MaxInt64},
		{func(n int64) api.Fault { return flip(int(n), 1, 0, 0, 0, 1) }, 0, 255},
		{func(n int64) api.Fault { return flip(0, int(n), 0, 0, 0, 1) }, 1, 16},
		{func(n int64) api.Fault { return flip(0, 1, int(n), 0, 0, 1) }, 0, 2},
		{func(n int64) api.Fault { return flip(0, 1, int(n), 1, 0, 1) }, 2, 2},
		{func(n int64) api.Fault { return flip(0, 1, api.MomentOpen, int(n), 0, 1) }, 0, 0},
		{func(n int64) api.Fault { return flip(0, 1, api.MomentOut, int(n), 0, 1) }, 0, 0},
		{func(n int64) api.Fault { return flip(0, 1, api.MomentRead, int(n), 0, 1) }, 0, 65534},
		{func(n int64) api.Fault { return flip(0, 1, 0, 0, n, 1) }, 0, math.MaxInt64},
		{func(n int64) api.Fault { return length(int(n), 1, 0, 0, 1) }, 0, 255},
		{func(n int64) api.Fault { return length(0, int(n), 0, 0, 1) }, 1, 16},
		{func(n int64) api.Fault { return length(0, 1, int(n), 0, 1) }, 0, 2},
		{func(n int64) api.Fault { return length(0, 1, int(n), 1, 1) }, 2, 2},
		{func(n int64) api.Fault { return length(0, 1, api.MomentOpen, int(n), 1) }, 0, 0},
		{func(n int64) api.Fault { return length(0, 1, api.MomentOut, int(n), 1) }, 0, 0},
		{func(n int64) api.Fault { return length(0, 1, api.MomentRead, int(n), 1) }, 0, 65534},
		{func(n int64) api.Fault { return length(0, 1, 0, 0, n) }, -api.MaxBlob, -1},
		{func(n int64) api.Fault { return length(0, 1, 0, 0, max(n, 0)) }, 1, api.MaxGrow},
	} {
		for _, n := range []int64{c.least, c.least + (c.most-c.least)/2, c.most} {
			checks(t, api.OK, c.of(n))
		}
		checks(t, api.ErrFault, c.of(math.MinInt64))
		checks(t, api.ErrFault, c.of(c.least-1))
		if c.most < math.MaxInt64 {
			checks(t, api.ErrFault, c.of(c.most+1))
			checks(t, api.ErrFault, c.of(math.MaxInt64))
		}
	}
}

// Fields that a kind does not use are 0.
func TestCheckUnusedFields(t *testing.T) {
	for _, n := range ints() {
		if n == 0 {
			continue
		}
		at := stop(api.TaskMap, 0, 1, 5)
		at.Moment = n
		checks(t, api.ErrFault, at)
		by := stop(api.TaskReduce, 0, 1, 5)
		by.Reader = n
		checks(t, api.ErrFault, by)
		by.Moment = api.MomentRead
		checks(t, api.ErrFault, by)
		turned := flip(0, 1, 0, 0, 5, 1)
		turned.TaskKind = n
		checks(t, api.ErrFault, turned)
		longer := length(0, 1, 0, 0, 5)
		longer.TaskKind = n
		checks(t, api.ErrFault, longer)
	}
	for _, mask := range masks() {
		if mask == 0 {
			continue
		}
		masked := stop(api.TaskMap, 0, 1, 5)
		masked.Mask = mask
		checks(t, api.ErrFault, masked)
		longer := length(0, 1, 0, 0, 5)
		longer.Mask = mask
		checks(t, api.ErrFault, longer)
	}
}

func TestCheckMasks(t *testing.T) {
	for bit := range 32 {
		want := api.ErrFault
		if bit == 0 {
			want = api.OK
		}
		checks(t, want, flip(0, 1, 0, 0, 0, 1<<bit))
		checks(t, api.OK, flip(0, 1, 0, 0, 0, 1<<bit|1))
		checks(t, api.OK, flip(0, 1, 0, 0, 0, math.MaxUint32>>bit))
	}
	checks(t, api.ErrFault, flip(0, 1, 0, 0, 0, 0))
	checks(t, api.ErrFault, flip(0, 1, 0, 0, 0, math.MaxUint32-1))
}

func TestCheckOfOddEntries(t *testing.T) {
	may := 0
	for _, f := range odd() {
		want := plainCheck([]api.Fault{f})
		checks(t, want, f)
		if want == api.OK {
			may++
		}
	}
	if all := len(odd()); may < 100 || all-may < 500 {
		t.Fatalf("of %d odd entries %d may be", all, may)
	}
}

// Two numbers of one entry that may not be, or that may be together alone.
func TestCheckOfTwoChanges(t *testing.T) {
	random := rand.New(rand.NewSource(161))
	for _, f := range odd() {
		all := changed(f)
		for range 20 {
			g := all[random.Intn(len(all))]
			checks(t, plainCheck([]api.Fault{g}), g)
		}
	}
}

func TestCheckNumbersOfEntries(t *testing.T) {
	checks(t, api.OK)
	if err := Check([]api.Fault{}); err != api.OK {
		t.Fatal("Check of no entries", err)
	}
	checks(t, api.OK, stops(1)...)
	checks(t, api.OK, stops(api.MaxFaults-1)...)
	checks(t, api.OK, stops(api.MaxFaults)...)
	checks(t, api.ErrLong, stops(api.MaxFaults+1)...)
	checks(t, api.ErrLong, stops(api.MaxFaults*3)...)
}

// ErrLong comes ahead of ErrFault.
func TestCheckOrderOfErrors(t *testing.T) {
	checks(t, api.ErrLong, make([]api.Fault, api.MaxFaults+1)...)
	checks(t, api.ErrFault, make([]api.Fault, api.MaxFaults)...)
	alike := make([]api.Fault, api.MaxFaults+1)
	for i := range alike {
		alike[i] = stop(api.TaskMap, 1, 1, 0)
	}
	checks(t, api.ErrLong, alike...)
	checks(t, api.ErrFault, alike[1:]...)
}

// One entry that may not be, or that is there already, wherever it stands.
func TestCheckLooksAtAll(t *testing.T) {
	for at := range api.MaxFaults {
		l := stops(api.MaxFaults)
		l[at].Attempt = 17
		checks(t, api.ErrFault, l...)
		l = stops(api.MaxFaults)
		other := (at + 101) % api.MaxFaults
		l[at].TaskKind, l[at].Task, l[at].Attempt = l[other].TaskKind, l[other].Task, l[other].Attempt
		checks(t, api.ErrFault, l...)
		l[at] = stop(api.TaskReduce, 999, 1, 0)
		checks(t, api.OK, l...)
	}
}

// Each two of the odd entries that may be: those that differ in one field alone are among them.
func TestCheckOfTwo(t *testing.T) {
	var may []api.Fault
	for _, f := range odd() {
		if plainMayBe(f) {
			may = append(may, f)
		}
	}
	for _, f := range may {
		for _, g := range may {
			checks(t, plainCheck([]api.Fault{f, g}), f, g)
		}
	}
}

func TestCheckOfOnePlace(t *testing.T) {
	for _, c := range []struct {
		f, g api.Fault
		want api.Errno
	}{
		{stop(0, 3, 1, 5), stop(0, 3, 1, 6), api.ErrFault},
		{stop(1, 3, 1, 5), stop(1, 3, 1, 5), api.ErrFault},
		{stop(0, 3, 1, 5), stop(1, 3, 1, 5), api.OK},
		{stop(0, 3, 1, 5), stop(0, 4, 1, 5), api.OK},
		{stop(0, 3, 1, 5), stop(0, 3, 2, 5), api.OK},
		{flip(3, 1, 0, 0, 5, 1), flip(3, 1, 0, 0, 5, 1), api.ErrFault},
		{flip(3, 1, 0, 0, 5, 1), flip(3, 1, 1, 0, 5, 1), api.ErrFault},
		{flip(3, 1, 2, 0, 5, 1), flip(3, 1, 2, 1, 5, 1), api.ErrFault},
		{flip(3, 1, 0, 0, 5, 1), flip(3, 1, 0, 0, 6, 1), api.ErrFault},
		{flip(3, 1, 0, 0, 5, 1), flip(3, 1, 0, 0, 5, 3), api.ErrFault},
		{flip(3, 1, 0, 0, 5, 1), flip(4, 1, 0, 0, 5, 1), api.OK},
		{flip(3, 1, 0, 0, 5, 1), flip(3, 2, 0, 0, 5, 1), api.OK},
		{length(3, 1, 0, 0, 5), length(3, 1, 0, 0, 5), api.ErrFault},
		{length(3, 1, 0, 0, 5), length(3, 1, 1, 0, 5), api.ErrFault},
		{length(3, 1, 2, 0, 5), length(3, 1, 2, 1, 5), api.ErrFault},
		{length(3, 1, 0, 0, 5), length(3, 1, 0, 0, -5), api.ErrFault},
		{length(3, 1, 0, 0, 5), length(4, 1, 0, 0, 5), api.OK},
		{length(3, 1, 0, 0, 5), length(3, 2, 0, 0, 5), api.OK},
		{stop(0, 3, 1, 5), flip(3, 1, 0, 0, 5, 1), api.OK},
		{stop(0, 3, 1, 5), length(3, 1, 0, 0, 5), api.OK},
		{flip(3, 1, 0, 0, 5, 1), length(3, 1, 0, 0, 5), api.OK},
		{stop(1, 3, 1, 5), flip(3, 1, 0, 0, 5, 1), api.OK},
	} {
		checks(t, c.want, c.f, c.g)
		checks(t, c.want, c.g, c.f)
		checks(t, c.want, c.f, stop(0, 9, 9, 9), c.g)
	}
}

func TestCheckOfAnyEntries(t *testing.T) {
	random := rand.New(rand.NewSource(1611))
	for range 20000 {
		l := randomEntries(random, 8)
		checks(t, plainCheck(l), l...)
	}
}

// What follows: a first part of entries that may be may be.
func TestFirstPartsMayBe(t *testing.T) {
	random := rand.New(rand.NewSource(1612))
	for range 500 {
		l := randomScript(random, 30)
		for n := range len(l) + 1 {
			checks(t, api.OK, l[:n]...)
		}
	}
	l := stops(api.MaxFaults)
	for n := range len(l) + 1 {
		checks(t, api.OK, l[:n]...)
	}
}
