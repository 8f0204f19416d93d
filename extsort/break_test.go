package extsort

import (
	"slices"
	"strconv"
	"strings"
	"sync/atomic"
	"testing"

	"winnow/api"
	"winnow/store"
)

// isBroken asks for the error that broke a sorter from each further call, whatever record it is handed, until Finish was called.
func isBroken(t *testing.T, x *Sorter, want api.Errno, stats api.SortStats) {
	t.Helper()
	long := strings.Repeat("k", 1025)
	any := []api.Record{rec(0, "a", ""), rec(-1, "", ""), rec(0, long, ""), rec(0, "", ""), rec(70000, "", long)}
	for range 2 {
		adds(t, x, want, any...)
		isStats(t, x, stats.Runs, stats.Merges, stats.Peak)
	}
	refusesFinish(t, x, want)
	for range 2 {
		refusesFinish(t, x, api.ErrOver)
		adds(t, x, api.ErrOver, any...)
		isStats(t, x, stats.Runs, stats.Merges, stats.Peak)
	}
}

// A name that is taken breaks the sorter where a run of that name is to be laid down, whichever it is: from the buffer, merged in Add, merged in Finish.
func TestTakenName(t *testing.T) {
	for _, fan := range []int{2, 3, 4} {
		l := runOfOne(21)
		for number := 1; ; number++ {
			both := makesBoth(t, examples().withFan(fan))
			both.plain.stop = number
			taken := "p." + strconv.Itoa(number)
			both.store.Create(taken)
			both.store.Append(taken, []byte("taken"))
			both.store.Publish(taken)
			for _, r := range l {
				if both.plain.add(r); both.plain.broken {
					adds(t, both.x, api.ErrExists, r)
					break
				}
				adds(t, both.x, api.OK, r)
			}
			stats := both.plain.stats
			if both.plain.broken {
				isBroken(t, both.x, api.ErrExists, stats)
			} else if both.plain.finish(); both.plain.broken {
				stats = both.plain.stats
				refusesFinish(t, both.x, api.ErrExists)
				refusesFinish(t, both.x, api.ErrOver)
				adds(t, both.x, api.ErrOver, l...)
				isStats(t, both.x, stats.Runs, stats.Merges, stats.Peak)
			} else {
				isTold(t, finishes(t, both.x), plainSort(l))
				isNames(t, both.store, both.plain.names(taken))
				break
			}
			isNames(t, both.store, both.plain.names(taken))
			if got := bytesOf(t, both.store, taken); string(got) != "taken" {
				t.Fatalf("%s was written into: %q", taken, got)
			}
			both.plain.isWritten(t, both.store)
		}
	}
}

// A name that gets too long: the tenth run's.
func TestLongName(t *testing.T) {
	m := examples()
	m.prefix = strings.Repeat("p", 38)
	both := makesBoth(t, m)
	both.plain.stop = 10
	l := runOfOne(20)
	for i, r := range l {
		if both.plain.add(r); both.plain.broken {
			adds(t, both.x, api.ErrName, r)
			if i != 6 { // 6 runs, 4 merges
				t.Errorf("broken by Add number %d", i)
			}
			break
		}
		adds(t, both.x, api.OK, r)
	}
	both.plain.isAt(t, both.x, both.store)
	isBroken(t, both.x, api.ErrName, both.plain.stats)
	both.plain.isAt(t, both.x, both.store)
}

// stopping lays a stop on a blob when its first record is asked for: then the blob is there, and has no bytes.
func stopping(s *store.Store, name string, at int64, list []api.Record) teller {
	tell := tellList(list)
	asked := false
	return func() (api.Record, bool, api.Errno) {
		if !asked {
			s.StopAt(name, at)
			asked = true
		}
		return tell()
	}
}

// A stop at any byte of a run: it is not laid down, and what is written of it stays open.
func TestStopAtAnyByte(t *testing.T) {
	l := plainSort(letters(60))
	m := examples()
	size := int64(len(m.plainBytes(t, l)))
	for at := int64(-1); at < size+3; at++ {
		s := store.New()
		x := makes(t, s, m)
		r, e := x.layDown(stopping(s, "p.1", at, l), 0)
		if r != (run{}) || e != api.ErrStopped {
			t.Fatalf("a stop at %d: %v, %d", at, r, e)
		}
		want := api.BlobInfo{Name: "p.1", State: api.BlobOpen, Size: int(min(max(at, 0), size))}
		if got := s.List(""); !slices.Equal(got, []api.BlobInfo{want}) {
			t.Fatalf("a stop at %d: %v, want %v", at, got, want)
		}
	}
	s := store.New()
	r, e := makes(t, s, m).layDown(tellList(l), 5)
	if r != (run{"p.1", size, 5}) || e != api.OK {
		t.Fatalf("without a stop: %v, %d, want %d bytes", r, e, size)
	}
}

// What else may be done to a blob that is written.
func TestMeddling(t *testing.T) {
	l := plainSort(letters(60))
	for _, row := range []struct {
		do   func(s *store.Store) api.Errno
		want api.Errno
	}{
		{func(s *store.Store) api.Errno { return s.Delete("p.1") }, api.ErrNoBlob},
		{func(s *store.Store) api.Errno { return s.Publish("p.1") }, api.ErrOut},
		{func(s *store.Store) api.Errno { return s.Resize("p.1", api.MaxBlob) }, api.ErrBig},
	} {
		for _, when := range []int{0, 10, 59, 60} { // ahead of that record, or of the end
			s := store.New()
			x := makes(t, s, examples())
			rest := tellList(l)
			asked := 0
			r, e := x.layDown(func() (api.Record, bool, api.Errno) {
				if asked++; asked-1 == when {
					s.Resize("p.1", -int64(s.List("p.1")[0].Size)) // so that there is room for as much as there may be
					if e := row.do(s); e != api.OK {
						t.Fatalf("meddling: %d", e)
					}
				}
				return rest()
			}, 0)
			if r != (run{}) || e != row.want {
				t.Errorf("ahead of number %d: %v, %d, and not %d", when, r, e, row.want)
			}
		}
	}
}

// An error of who tells the records is told, and nothing is published.
func TestTellerFails(t *testing.T) {
	s := store.New()
	x := makes(t, s, examples())
	rest := tellList(letters(3)[:1])
	r, e := x.layDown(func() (api.Record, bool, api.Errno) {
		if r, some, _ := rest(); some {
			return r, true, api.OK
		}
		return api.Record{}, false, api.ErrCorrupt
	}, 0)
	if r != (run{}) || e != api.ErrCorrupt {
		t.Errorf("%v, %d", r, e)
	}
	isNames(t, s, "p.1?")
}

// stopper lays a stop on a blob as soon as it is there, at the same time as it is written.
type stopper struct {
	over atomic.Bool
	told chan bool
}

// watch lets a stopper run from when the run of that name is begun.
func (p *stopper) watch(x *Sorter, s *store.Store, name string, at int64) {
	inner := x.nextName
	x.nextName = func() string {
		next := inner()
		if next == name {
			ready := make(chan bool)
			p.told = make(chan bool, 1)
			go func() {
				close(ready)
				e := api.ErrNoBlob
				for e == api.ErrNoBlob && !p.over.Load() {
					e = s.StopAt(name, at)
				}
				p.told <- e == api.OK
			}()
			<-ready
		}
		return next
	}
}

// hasStopped tells whether the stop came to lie on the blob while it was open.
func (p *stopper) hasStopped() bool {
	p.over.Store(true)
	return p.told != nil && <-p.told
}

// A stop that another one lays on a run while it is written breaks the sorter, if it comes in time: in Add, in a merge of Add, in a merge of Finish.
func TestStopsByAnother(t *testing.T) {
	for _, name := range []string{"p.1", "p.2", "p.3", "p.4", "p.5"} {
		stopped := 0
		for round := 0; round < 400 && stopped < 20; round++ {
			s := store.New()
			m := examples()
			m.budget = 34 * 200
			x := makes(t, s, m)
			var p stopper
			p.watch(x, s, name, int64(round*37%2000))
			e := api.OK
			before := x.Stats()
			for _, r := range letters(650) {
				before = x.Stats()
				if e = x.Add(r); e != api.OK {
					break
				}
			}
			var f *Stream
			inFinish := e == api.OK
			if inFinish {
				f, e = x.Finish()
			}
			if !p.hasStopped() {
				if f == nil || e != api.OK {
					t.Fatalf("without a stop: %v, %d", f, e)
				}
				continue
			}
			stopped++
			if f != nil || e != api.ErrStopped || !strings.Contains(namesIn(s), name+"?") {
				t.Fatalf("%s is stopped: %v, %d, %s", name, f, e, namesIn(s))
			}
			if left := strings.Join(published(s), " "); left != map[string]string{"p.1": "", "p.2": "p.1", "p.3": "p.1 p.2", "p.4": "p.3", "p.5": "p.3 p.4"}[name] {
				t.Fatalf("%s is stopped: left are %s", name, left)
			}
			if inFinish != (name == "p.5") {
				t.Fatalf("%s is laid down in Finish: %v", name, inFinish)
			}
			if inFinish {
				refusesFinish(t, x, api.ErrOver)
				continue
			}
			after := x.Stats()
			if after.Peak != before.Peak {
				t.Fatalf("a record that is not in it has a cost: %v, %v", before, after)
			}
			isBroken(t, x, api.ErrStopped, after)
		}
		t.Logf("%s: %d stops came in time", name, stopped)
	}
}

// Of runs that are merged the oldest is deleted first, and the first that cannot be deleted breaks the sorter. (A run that stands in the row twice is one that is gone when its second turn comes.)
func TestDeleteFails(t *testing.T) {
	for _, row := range []struct {
		twice int // the run of that place takes the next one's
		left  string
	}{{0, "p.2 p.3 p.4 p.5"}, {1, "p.3 p.4 p.5"}, {2, "p.4 p.5"}} {
		s := store.New()
		x := makes(t, s, examples().withFan(5))
		l := runOfOne(5)
		adds(t, x, api.OK, l...)
		x.row[row.twice+1] = x.row[row.twice]
		if e := x.mergeLast(4); e != api.ErrNoBlob {
			t.Fatalf("a run that cannot be deleted: %d", e)
		}
		isNames(t, s, row.left)
	}
	s := store.New()
	x := makes(t, s, examples())
	adds(t, x, api.OK, runOfOne(6)...)
	isNames(t, s, "p.7 p.8")
	x.row = append(x.row[:1:1], x.row[1], x.row[1], x.row[1])
	refusesFinish(t, x, api.ErrNoBlob)
	refusesFinish(t, x, api.ErrOver)
	isNames(t, s, "p.7 p.9")
}

// A merged run of more blocks than a spill may have.
func TestTooManyBlocks(t *testing.T) {
	t.Parallel()
	m := examples()
	m.budget, m.shape = 64*(1<<17+1), shape(64, 1, 0)
	s := store.New()
	x := makes(t, s, m)
	for range 1<<18 + 2 {
		adds(t, x, api.OK, rec(0, strings.Repeat("k", 32), ""))
	}
	isStats(t, x, 1, 0, m.budget)
	adds(t, x, api.ErrFull, rec(0, "", ""))
	isNames(t, s, "p.1 p.2 p.3?")
	isBroken(t, x, api.ErrFull, api.SortStats{Runs: 2, Peak: m.budget})
}
