package maptask

import (
	"math/rand"
	"runtime"
	"slices"
	"strings"
	"sync"
	"testing"
	"unsafe"

	"winnow/api"
	"winnow/store"
)

// 17.3

// loose tells a text whose bytes may be changed: whoever has kept it shows that.
func loose(text string) (string, []byte) {
	b := []byte(text)
	return unsafe.String(unsafe.SliceData(b), len(b)), b
}

func spoil(all ...[]byte) {
	for _, b := range all {
		for i := range b {
			b[i] = '#'
		}
	}
}

// looseAttempt tells the same attempt, whose texts may be changed, and their bytes.
func looseAttempt(a attempt) (attempt, [][]byte) {
	out, outBytes := loose(a.out)
	text, textBytes := loose(a.split.Text)
	all := [][]byte{outBytes, textBytes}
	a.out, a.split.Text = out, text
	bounds := make([]string, len(a.job.Bounds))
	for i, bound := range a.job.Bounds {
		one, b := loose(bound)
		bounds[i] = one
		all = append(all, b)
	}
	a.job.Bounds = bounds
	return a, all
}

// Neither the bounds, nor the room behind them, nor any text is changed.
func TestNothingIsChanged(t *testing.T) {
	random := rand.New(rand.NewSource(173))
	for range 200 {
		a := randomAttempt(random)
		if random.Intn(3) == 0 {
			a = a.stoppedAt(int64(random.Intn(300)))
		}
		handed, all := looseAttempt(a)
		before := make([]string, len(all))
		for i, b := range all {
			before[i] = string(b)
		}
		whole := append(slices.Clone(handed.job.Bounds), "room", "a")
		wholeBefore := slices.Clone(whole)
		handed.job.Bounds = whole[:len(whole)-2]
		handed.run(store.New())
		isSame(t, "the bounds and their room", whole, wholeBefore)
		for i, b := range all {
			if string(b) != before[i] {
				t.Fatalf("a text has become %q, and was %q", b, before[i])
			}
		}
	}
}

// What was handed in may be changed behind the call: neither the report nor the store shows it.
func TestNothingIsKept(t *testing.T) {
	random := rand.New(rand.NewSource(1731))
	for range 200 {
		a := randomAttempt(random)
		if random.Intn(3) == 0 {
			a = a.stoppedAt(int64(random.Intn(300)))
		}
		s, twin := store.New(), store.New()
		want, wantErr := a.plainRun(twin)
		handed, all := looseAttempt(a)
		report, err := handed.run(s)
		spoil(all...)
		clear(handed.job.Bounds)
		if report != want || err != wantErr {
			t.Fatalf("%+v, %d, and not %+v, %d", report, err, want, wantErr)
		}
		isSame(t, "blobs", s.List(""), twin.List(""))
		if err == api.OK {
			s.Publish(a.name())
			twin.Publish(a.name())
			isSame(t, "the spill", bytesOf(t, s, a.name()), bytesOf(t, twin, a.name()))
		}
	}
}

func TestNamesAreNew(t *testing.T) {
	out, b := loose("wc")
	name := Name(out, 3, 0)
	spoil(b)
	if name != "wc.m3.0" {
		t.Errorf("behind a change: %q", name)
	}
}

// live tells how many bytes are held.
func live() int64 {
	runtime.GC()
	runtime.GC()
	var m runtime.MemStats
	runtime.ReadMemStats(&m)
	return int64(m.HeapAlloc)
}

// Behind an attempt, whether it worked or not, there is the store, and nothing else.
func TestLittleIsKept(t *testing.T) {
	text := strings.Repeat("the quick brown fox\n", 300)
	before := live()
	s := store.New()
	for task := range 20 {
		a := example(strings.Clone(text))
		a.task, a.job.Combine, a.job.Budget, a.job.Shape.Block = task, true, 1<<16, 4096
		a.out = strings.Repeat("o", 1<<20)[:2]
		report, err := a.run(s)
		isError(t, "Run", err, api.OK)
		a.number = 2
		_, err = a.stoppedAt(0).run(s)
		isError(t, "a stop", err, api.ErrStopped)
		for _, b := range s.List("") {
			if b.Name != report.Name {
				s.Delete(b.Name)
			}
		}
	}
	if grown := live() - before; grown > 500<<10 {
		t.Errorf("%d bytes are kept", grown)
	}
	runtime.KeepAlive(s)
}

// Tasks at one time, over one store, come to the same as one behind the other.
func TestManyAtOneTime(t *testing.T) {
	random := rand.New(rand.NewSource(1732))
	for range 10 {
		job := randomJob(random)
		s := store.New()
		attempts := make([]attempt, 16)
		reports := make([]api.Report, len(attempts))
		errs := make([]api.Errno, len(attempts))
		var all sync.WaitGroup
		for task := range attempts {
			a := attempt{out: "o", job: job, task: task / 2, number: task % 2, split: randomSplit(random)}
			if random.Intn(4) == 0 {
				a = a.stoppedAt(int64(random.Intn(300)))
			}
			attempts[task] = a
			all.Add(1)
			go func() {
				defer all.Done()
				reports[task], errs[task] = a.run(s)
			}()
		}
		all.Wait()
		twin := store.New()
		for task, a := range attempts {
			want, wantErr := a.plainRun(twin)
			if reports[task] != want || errs[task] != wantErr {
				t.Fatalf("%s: %+v, %d, and not %+v, %d", a.name(), reports[task], errs[task], want, wantErr)
			}
		}
		isSame(t, "blobs", s.List(""), twin.List(""))
		for task, a := range attempts {
			if errs[task] == api.OK {
				s.Publish(a.name())
				twin.Publish(a.name())
				isSame(t, a.name(), bytesOf(t, s, a.name()), bytesOf(t, twin, a.name()))
			}
		}
	}
}
