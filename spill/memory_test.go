package spill

import (
	"bytes"
	"math/rand"
	"runtime"
	"slices"
	"testing"
	"unsafe"

	"winnow/api"
	"winnow/store"
)

// 9.7

// scratch hands out texts that are changed when the call is over: whoever has kept one shows it.
type scratch struct {
	buffers [][]byte
}

func (s *scratch) text(of string) string {
	b := []byte(of)
	s.buffers = append(s.buffers, b)
	return unsafe.String(unsafe.SliceData(b), len(b))
}

func (s *scratch) record(r api.Record) api.Record {
	return rec(r.Part, s.text(r.Key), s.text(r.Value))
}

// over changes all that was handed out.
func (s *scratch) over() {
	for _, b := range s.buffers {
		for i := range b {
			b[i] = '#'
		}
	}
	s.buffers = nil
}

func TestNothingIsKept(t *testing.T) {
	random := rand.New(rand.NewSource(97))
	for range 60 {
		sh := randomShape(random)
		records := randomRecords(random, 3, 60)
		want := plainSpill(t, 3, sh, records)
		s := store.New()
		var hand scratch
		w, e := Create(s, hand.text("x"), 3, sh)
		hand.over()
		if e != api.OK {
			t.Fatalf("Create: %d", e)
		}
		for _, r := range records {
			e := w.Add(hand.record(r))
			hand.over()
			if e != api.OK {
				t.Fatalf("Add: %d", e)
			}
			w.Add(hand.record(rec(r.Part-1, r.Key, r.Value)))
			w.Add(hand.record(rec(3, r.Key, r.Value)))
			hand.over()
		}
		n := closes(t, w, len(records))
		s.Publish("x")
		if !bytes.Equal(bytesOf(t, s, "x"), want) {
			t.Fatalf("a writer keeps what it is handed")
		}
		r, e := Open(s, hand.text("x"), n)
		hand.over()
		if e != api.OK {
			t.Fatalf("Open: %d", e)
		}
		f, _ := plainOpen(want, n)
		for part := range 3 {
			for _, key := range append(keysOf(records), "", "a") {
				c, e := r.Seek(part, hand.text(key))
				hand.over()
				holds(t, "Seek of a text that changes", s, c, e, plainSeek(want, f, part, key))
				has, e := r.Has(part, hand.text(key))
				hand.over()
				if is, err := plainHas(want, f, part, key); has != is || e != err {
					t.Fatalf("Has of a text that changes: %v, %d", has, e)
				}
			}
		}
	}
}

// scribbled writes into all of an answer, and into the room behind its lists.
func scribbled(f api.Foot) {
	infos := f.Infos[:cap(f.Infos)]
	for i := range infos {
		blocks := infos[i].Blocks[:cap(infos[i].Blocks)]
		for k := range blocks {
			blocks[k] = api.BlockInfo{Stored: -9, Raw: -9, Count: -9, Cut: "scribble"}
		}
		bits := infos[i].Filter.Data[:cap(infos[i].Filter.Data)]
		for k := range bits {
			bits[k] = 0
		}
		infos[i] = api.PartInfo{Part: -9}
	}
}

func TestFootIsNew(t *testing.T) {
	random := rand.New(rand.NewSource(971))
	for range 60 {
		records := randomRecords(random, 3, 60)
		r, s := reopened(t, 3, randomShape(random), records...)
		b := bytesOf(t, s, "x")
		f, _ := plainOpen(b, int64(len(b)))
		begun, e := r.Scan(0)
		scribbled(r.Foot())
		reads(t, "a footer was written into", s, r, b, f, []string{"", "a", "aa"})
		holds(t, "a cursor that was there ahead of it", s, begun, e, plainSeek(b, f, 0, ""))
		// Lists of one answer share nothing.
		for i := range f.Infos {
			got := r.Foot()
			one := api.Foot{Parts: got.Parts, Infos: got.Infos[i : i+1 : i+1]}
			scribbled(one)
			got.Infos[i] = f.Infos[i]
			if !alike(got, f) {
				t.Fatalf("lists of one footer share memory")
			}
		}
	}
}

// longKey tells one of many keys of 500 bytes, which a block tells in few bytes.
func longKey(i int) string {
	return long(497) + string([]byte{byte(i >> 16), byte(i >> 8), byte(i)})
}

// A writer keeps the keys of one partition, and no more of these than its filter hangs on; and none when it is closed or broken.
func TestLittleIsKept(t *testing.T) {
	for _, row := range []struct {
		bits, parts, keys int // how many keys each partition has
		end               api.Errno
		most              int64
	}{
		{8, 500, 40, api.OK, 2 << 20},
		{0, 1, 20000, api.OK, 2 << 20},
		{8, 1, 65537 + 40000, api.OK, 65537*530 + 8<<20},
		{8, 1, 20000, api.ErrOver, 2 << 20},
		{8, 1, 20000, api.ErrNoBlob, 2 << 20},
	} {
		before := live()
		s := store.New()
		w := creates(t, s, row.parts, shape(16384, 16, row.bits))
		for i := range row.parts * row.keys {
			adds(t, w, rec(i/row.keys, longKey(i), ""))
		}
		switch row.end {
		case api.ErrOver:
			closes(t, w, row.parts*row.keys)
		case api.ErrNoBlob:
			s.Delete("x")
			w.Close()
		}
		if e := w.Add(rec(0, "", "")); row.end != api.OK && e != row.end {
			t.Errorf("%v: the writer is at its end by %d", row, e)
		}
		if grown := live() - before - 2*int64(sizeOf(s, "x")); grown > row.most {
			t.Errorf("%v: a writer keeps %d bytes", row, grown)
		}
		runtime.KeepAlive(w)
		runtime.KeepAlive(s)
	}
}

// A cursor keeps one block, and none at its end.
func TestCursorKeepsLittle(t *testing.T) {
	s := store.New()
	w := creates(t, s, 1, shape(16384, 16, 0))
	for i := range 20000 {
		adds(t, w, rec(0, longKey(i), ""))
	}
	n := closes(t, w, 20000)
	s.Publish("x")
	r := opens(t, s, n)
	for _, hit := range []bool{false, true} {
		if hit {
			s.Flip("x", 8*n/2, 1)
		}
		before := live()
		var ended []*Cursor
		for range 6 { // of one alone, what else runs meanwhile would be as much
			c, _ := r.Scan(0)
			told := 0
			for _, some, _ := c.Next(); some; _, some, _ = c.Next() {
				told++
				if told == 3000 {
					if grown := live() - before; grown > 4<<20 {
						t.Errorf("a cursor keeps %d bytes", grown)
					}
				}
			}
			if hit != (told < 20000) {
				t.Errorf("hit: %v, %d records", hit, told)
			}
			ended = append(ended, c)
		}
		if grown := live() - before; grown > 500<<10 {
			t.Errorf("%d cursors at their end keep %d bytes", len(ended), grown)
		}
		runtime.KeepAlive(ended)
	}
	runtime.KeepAlive(r)
}

// live tells how many bytes are held.
func live() int64 {
	runtime.GC()
	runtime.GC()
	var m runtime.MemStats
	runtime.ReadMemStats(&m)
	return int64(m.HeapAlloc)
}

// Many may read at one time.
func TestManyReaders(t *testing.T) {
	random := rand.New(rand.NewSource(972))
	records := randomRecords(random, 3, 200)
	s, n := spilt(t, 3, shape(100, 4, 8), records...)
	b := bytesOf(t, s, "x")
	f, _ := plainOpen(b, n)
	shared := opens(t, s, n)
	done := make(chan bool)
	for i := range 8 {
		go func() {
			ok := true
			for range 20 {
				part := i % 3
				c, _ := shared.Scan(part)
				var got []api.Pair
				for p, some, _ := c.Next(); some; p, some, _ = c.Next() {
					got = append(got, p)
				}
				shared.Foot()
				has, _ := shared.Has(part, "a")
				is, _ := plainHas(b, f, part, "a")
				ok = ok && has == is && slices.Equal(got, plainSeek(b, f, part, "").pairs)
			}
			done <- ok
		}()
	}
	for range 8 {
		if !<-done {
			t.Errorf("readers at one time tell other records")
		}
	}
}
