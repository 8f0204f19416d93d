package extsort

import (
	"math/rand"
	"runtime"
	"strconv"
	"strings"
	"testing"
	"unsafe"

	"winnow/api"
	"winnow/store"
)

// 12.7

// scratch hands out texts that are changed when the call is over: whoever has kept one shows it.
type scratch struct {
	buffers [][]byte
}

func (s *scratch) text(of string) string {
	b := []byte(of)
	s.buffers = append(s.buffers, b)
	return unsafe.String(unsafe.SliceData(b), len(b))
}

func (s *scratch) record(r api.Record) api.Record {
	return rec(r.Part, s.text(r.Key), s.text(r.Value))
}

// over changes all that was handed out.
func (s *scratch) over() {
	for _, b := range s.buffers {
		for i := range b {
			b[i] = '#'
		}
	}
	s.buffers = nil
}

func TestNothingIsKept(t *testing.T) {
	random := rand.New(rand.NewSource(127))
	for range 40 {
		m := randomMeasures(random)
		s := store.New()
		plain := &plainSorter{measures: m}
		var hand scratch
		m.prefix = hand.text(m.prefix)
		x := makes(t, s, m)
		hand.over()
		list := randomRecords(random, m.parts, 200)
		for _, r := range list {
			adds(t, x, api.OK, hand.record(r))
			hand.over()
			adds(t, x, api.ErrArg, hand.record(rec(-1, r.Key, r.Value)))
			hand.over()
			plain.add(r)
			plain.isAt(t, x, s)
		}
		plain.isWritten(t, s)
		f := finishes(t, x)
		plain.finish()
		plain.isAt(t, x, s)
		isTold(t, f, plainSort(list))
		isClosed(t, f, api.OK)
		isNames(t, s, "")
	}
}

// What is told stays as it is, whatever is done later.
func TestToldStays(t *testing.T) {
	s := store.New()
	x := makes(t, s, examples())
	l := letters(100)
	adds(t, x, api.OK, l...)
	f := finishes(t, x)
	got, _ := told(t, f)
	isClosed(t, f, api.OK)
	y := makes(t, s, examples())
	adds(t, y, api.OK, runOfOne(50)...)
	isSame(t, "what was told", got, plainSort(l))
}

// live tells how many bytes are held.
func live() int64 {
	runtime.GC()
	runtime.GC()
	var m runtime.MemStats
	runtime.ReadMemStats(&m)
	return int64(m.HeapAlloc)
}

// stored tells how many bytes a store may hold for its blobs: they grow with room behind them.
func stored(s *store.Store) int64 {
	size := int64(0)
	for _, b := range s.List("") {
		size += 2 * int64(b.Size)
	}
	return size
}

// heavy tells one of many records of a kilobyte that blocks tell in few bytes.
func heavy(i int) api.Record {
	return rec(0, strings.Repeat("k", 500)+strconv.Itoa(i*7919%100000), strings.Repeat("v", 500))
}

// A sorter keeps a buffer of its budget, and of its runs their names.
func TestSorterKeepsLittle(t *testing.T) {
	for _, fan := range []int{2, 64} {
		before := live()
		s := store.New()
		m := measures{"p", 1, 1 << 16, fan, shape(4096, 16, 8)}
		x := makes(t, s, m)
		for i := range 5000 {
			adds(t, x, api.OK, heavy(i))
		}
		if grown := live() - before - stored(s); grown > 600<<10 {
			t.Errorf("fan %d: a sorter keeps %d bytes", fan, grown)
		}
		runtime.KeepAlive(x)
		runtime.KeepAlive(s)
	}
}

// What a sorter has ended with is all that it keeps.
func TestEndedKeepsNothing(t *testing.T) {
	for _, end := range []string{"finished", "broken", "told", "closed"} {
		before := live()
		s := store.New()
		m := measures{"p", 1, 1 << 24, 2, shape(4096, 16, 8)}
		x := makes(t, s, m)
		for i := range 10000 {
			adds(t, x, api.OK, heavy(i))
		}
		if grown := live() - before; grown < 10<<20 {
			t.Fatalf("the buffer has only %d bytes", grown)
		}
		var f *Stream
		switch end {
		case "finished": // and nobody wants the stream
			finishes(t, x)
		case "broken":
			s.Create("p.1")
			var e api.Errno
			for i := 0; e == api.OK; i++ {
				e = x.Add(heavy(i))
			}
			if e != api.ErrExists {
				t.Fatalf("broken by %d", e)
			}
		case "told":
			f = finishes(t, x)
			for _, some, _ := f.Next(); some; _, some, _ = f.Next() {
			}
		case "closed":
			f = finishes(t, x)
			f.Next()
			isClosed(t, f, api.OK)
		}
		if grown := live() - before - stored(s); grown > 1<<20 {
			t.Errorf("%s: %d bytes are kept", end, grown)
		}
		runtime.KeepAlive(x)
		runtime.KeepAlive(f)
		runtime.KeepAlive(s)
	}
}

// A stream keeps the buffer, and a block of each run.
func TestStreamKeepsLittle(t *testing.T) {
	s := store.New()
	x := makes(t, s, measures{"p", 1, 1 << 16, 8, shape(4096, 16, 8)})
	for i := range 10000 {
		adds(t, x, api.OK, heavy(i))
	}
	f := finishes(t, x)
	before := live()
	for i := range 10000 {
		if _, some, e := f.Next(); !some || e != api.OK {
			t.Fatalf("Next number %d: %v, %d", i, some, e)
		}
		if i%2500 == 1000 {
			if grown := live() - before; grown > 1<<20 {
				t.Errorf("behind %d records: %d bytes are kept", i, grown)
			}
		}
	}
	runtime.KeepAlive(f)
	runtime.KeepAlive(s)
}

// Nothing is read till a record is wanted or runs are merged; then each reading is of a block at most, and of no run too much is read (P3).
func TestReadingIsBounded(t *testing.T) {
	for _, block := range []int{64, 4096, 65536} {
		s := store.New()
		x := makes(t, s, measures{"p", 1, 1 << 16, 64, shape(block, 16, 8)})
		for i := 0; x.Stats().Runs < 63; i++ {
			adds(t, x, api.OK, heavy(i))
		}
		f := finishes(t, x)
		if s.Meter() != (api.Meter{}) {
			t.Fatalf("read ahead of Next: %v", s.Meter())
		}
		for _, some, _ := f.Next(); some; _, some, _ = f.Next() {
		}
		most := int64(0)
		for _, b := range s.List("p.") {
			most += 2*int64(b.Size) + 64
		}
		if m := s.Meter(); m.Greatest > max(block, 1100)+16 || m.Bytes > most || m.Bytes == 0 {
			t.Errorf("read of %d bytes: %v", most/2, m)
		}
	}
}

// A short prefix does not hold on to the long text that it was cut from.
func TestPrefixIsCut(t *testing.T) {
	before := live()
	s := store.New()
	var sorters []*Sorter
	for range 50 {
		text := strings.Repeat("t", 1<<16)
		m := examples()
		m.prefix = text[7:9]
		sorters = append(sorters, makes(t, s, m))
	}
	if grown := live() - before; grown > 1<<20 {
		t.Errorf("50 sorters keep %d bytes", grown)
	}
	runtime.KeepAlive(sorters)
	runtime.KeepAlive(s)
}
