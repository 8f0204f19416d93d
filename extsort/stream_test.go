package extsort

import (
	"math/rand"
	"slices"
	"strconv"
	"strings"
	"sync/atomic"
	"testing"

	"winnow/api"
	"winnow/store"
)

// 12.4

func TestNilStream(t *testing.T) {
	var f *Stream
	for range 2 {
		if r, some, e := f.Next(); r != (api.Record{}) || some || e != api.ErrNil {
			t.Errorf("Next: %v, %v, %d", r, some, e)
		}
		isClosed(t, f, api.ErrNil)
	}
}

func isOver(t *testing.T, f *Stream) {
	t.Helper()
	for range 2 {
		if r, some, e := f.Next(); r != (api.Record{}) || some || e != api.ErrOver {
			t.Fatalf("Next behind Close: %v, %v, %d", r, some, e)
		}
		isClosed(t, f, api.ErrOver)
	}
}

// Close may come ahead of the first Next, on the way, and behind the end; nothing is closed by itself.
func TestCloseAnywhere(t *testing.T) {
	l := letters(100)
	want := plainSort(l)
	for _, fan := range []int{2, 64} {
		for _, until := range []int{0, 1, 50, 99, 100, 103} {
			s := store.New()
			x := makes(t, s, examples().withFan(fan))
			adds(t, x, api.OK, l...)
			f := finishes(t, x)
			before := namesIn(s)
			for i := range until {
				r, some, e := f.Next()
				if some != (i < 100) || e != api.OK || some && r != want[i] || !some && r != (api.Record{}) {
					t.Fatalf("Next number %d: %v, %v, %d", i, r, some, e)
				}
				isNames(t, s, before)
			}
			isClosed(t, f, api.OK)
			isNames(t, s, "")
			isOver(t, f)
		}
	}
}

func TestNoRecords(t *testing.T) {
	for _, fan := range []int{2, 3, 64} {
		s := store.New()
		x := makes(t, s, examples().withFan(fan))
		f := finishes(t, x)
		isTold(t, f, nil)
		isClosed(t, f, api.OK)
		isOver(t, f)
		isStats(t, x, 0, 0, 0)
		isNames(t, s, "")
		if s.Meter() != (api.Meter{}) {
			t.Errorf("something is read: %v", s.Meter())
		}
	}
}

// Alike records come in the order of Add, whichever runs they stand in, and the buffer's last.
func TestAlike(t *testing.T) {
	for _, fan := range []int{2, 3, 5, 64} {
		for _, cost := range []int{40, 90, 200, 500} { // 6, 2, 1, 1 of them a run
			m := examples().withFan(fan)
			m.parts = 2
			both := makesBoth(t, m)
			for i := range 70 {
				r := costing(cost, []string{"k", "k", "j", "k"}[i%4])
				r.Part = i / 3 % 2
				n := strconv.Itoa(100 + i)
				r.Value = n + r.Value[len(n):]
				both.add(t, r)
			}
			both.finish(t)
		}
	}
}

// Streams of several sorters over one store are gone through side by side.
func TestSideBySide(t *testing.T) {
	random := rand.New(rand.NewSource(124))
	s := store.New()
	var sorters []*Sorter
	var lists [][]api.Record
	for i := range 6 {
		m := randomMeasures(random)
		m.prefix = "s" + strconv.Itoa(i)
		sorters = append(sorters, makes(t, s, m))
		lists = append(lists, randomRecords(random, m.parts, 300))
	}
	for i := range 300 {
		for k, x := range sorters {
			adds(t, x, api.OK, lists[k][i])
		}
	}
	var streams []*Stream
	for _, x := range sorters {
		streams = append(streams, finishes(t, x))
	}
	got := make([][]api.Record, len(streams))
	for range 300 {
		for k, f := range streams {
			r, some, e := f.Next()
			if !some || e != api.OK {
				t.Fatalf("Next: %v, %d", some, e)
			}
			got[k] = append(got[k], r)
		}
	}
	for k, f := range streams {
		isTold(t, f, nil)
		isSame(t, "side by side", got[k], plainSort(lists[k]))
		isClosed(t, f, api.OK)
		if left := s.List("s" + strconv.Itoa(k) + "."); len(left) != 0 {
			t.Errorf("left: %v", left)
		}
	}
	isNames(t, s, "")
}

// 12.5

// A run that is gone already does not keep the others.
func TestCloseOfGoneRuns(t *testing.T) {
	for mask := range 16 {
		s := store.New()
		x := makes(t, s, examples().withFan(5))
		adds(t, x, api.OK, runOfOne(5)...)
		f := finishes(t, x)
		isNames(t, s, "p.1 p.2 p.3 p.4")
		want := api.OK
		for i := range 4 {
			if mask>>i&1 == 1 {
				s.Delete("p." + strconv.Itoa(i+1))
				want = api.ErrNoBlob
			}
		}
		isClosed(t, f, want)
		isNames(t, s, "")
		isOver(t, f)
	}
}

// Close takes away its own runs, and no other blob; a blob that has come to a run's name is one of them.
func TestCloseTakesItsOwn(t *testing.T) {
	s := store.New()
	others := []string{"p", "p-1", "pp.1", "p.01", "p.x", "p.9", "q.1", "1", "p..1"}
	for _, name := range others {
		s.Create(name)
	}
	x := makes(t, s, examples().withFan(3))
	adds(t, x, api.OK, runOfOne(6)...)
	f := finishes(t, x)
	if got := len(s.List("")); got != len(others)+2 {
		t.Fatalf("%s", namesIn(s))
	}
	s.Delete("p.7")
	s.Create("p.7")
	isClosed(t, f, api.OK)
	slices.Sort(others)
	isNames(t, s, strings.Join(others, "? ")+"?")
}

// looks lists the blobs again and again while something is done, and tells which lists there were.
func looks(s *store.Store, do func()) [][]api.BlobInfo {
	var over atomic.Bool
	ready, seen := make(chan bool), make(chan [][]api.BlobInfo)
	go func() {
		var lists [][]api.BlobInfo
		close(ready)
		for !over.Load() {
			lists = append(lists, s.List(""))
		}
		seen <- lists
	}()
	<-ready
	do()
	over.Store(true)
	return <-seen
}

// The oldest is deleted first: whoever looks sees the last ones of the row.
func TestCloseInOrder(t *testing.T) {
	between := 0
	for range 100 {
		s := store.New()
		x := makes(t, s, examples().withFan(64))
		adds(t, x, api.OK, runOfOne(64)...)
		f := finishes(t, x)
		for _, list := range looks(s, func() { isClosed(t, f, api.OK) }) {
			for i := range list {
				if name := "p." + strconv.Itoa(64-len(list)+i); !slices.ContainsFunc(list, func(b api.BlobInfo) bool { return b.Name == name }) {
					t.Fatalf("of %d runs that are left %s is gone", len(list), name)
				}
			}
			if len(list) > 0 && len(list) < 63 {
				between++
			}
		}
	}
	t.Logf("%d looks on the way", between)
}
