package store

import (
	"bytes"
	"fmt"
	"math/rand"
	"runtime"
	"slices"
	"sync"
	"sync/atomic"
	"testing"
	"time"

	"winnow/api"
)

// 5.13

// together starts n at one time, none ahead of the last one's being there, and waits for all of them.
func together(n int, do func(who int)) {
	var wait sync.WaitGroup
	var ready atomic.Int64
	for who := range n {
		wait.Add(1)
		go func() {
			defer wait.Done()
			ready.Add(1)
			for ready.Load() < int64(n) {
				runtime.Gosched()
			}
			do(who)
		}()
	}
	wait.Wait()
}

func TestEachCallWaitsForTheOneAheadOfIt(t *testing.T) {
	for _, kind := range []string{"create", "append", "publish", "read", "size", "delete", "list", "stop", "flip", "resize", "meter"} {
		s := holding(t, "a", "abc", "out")
		done := make(chan bool)
		s.mutex.Lock()
		go func() {
			call{kind: kind, name: "a", at: 0, n: 1}.on(s)
			close(done)
		}()
		select {
		case <-done:
			t.Errorf("%s does not wait", kind)
		case <-time.After(20 * time.Millisecond):
		}
		s.mutex.Unlock()
		<-done
		if !s.mutex.TryLock() {
			t.Errorf("%s has ended, and others still wait for it", kind)
		}
	}
}

func TestABlobIsHeldAsLongAsItIsWorkedOn(t *testing.T) {
	s := holding(t, "a", "abc", "out")
	worked := false
	s.onBlob("a", func(*blob) api.Errno {
		worked = true
		if s.mutex.TryLock() {
			t.Error("another call may come between")
			s.mutex.Unlock()
		}
		return api.OK
	})
	if !worked {
		t.Error("nothing was done")
	}
}

func TestARefusedCallLetsOthersGoOn(t *testing.T) {
	s := New()
	row := []call{{kind: "create", name: "a"}, {kind: "create", name: "a"}, {kind: "read", name: "a"}, {kind: "size", name: "a"}, {kind: "read", name: "a", n: -1}, {kind: "flip", name: "a", at: -1}, {kind: "resize", name: "a", at: -1}, {kind: "stop", name: "a"}, {kind: "append", name: "a", b: "x"}, {kind: "append", name: "a", b: "x"}, {kind: "stop", name: "a"}, {kind: "publish", name: "a"}}
	for _, kind := range []string{"append", "publish", "read", "size", "delete", "stop", "flip", "resize"} {
		row = append(row, call{kind: kind, name: "b"}, call{kind: kind, name: "B"})
	}
	for _, c := range row {
		c.on(s)
		if !s.mutex.TryLock() {
			t.Fatalf("%+v has ended, and others still wait for it", c)
		}
		s.mutex.Unlock()
	}
}

func TestOneOfSeveralWins(t *testing.T) {
	for round := range 300 {
		s := New()
		var made, published, gone atomic.Int64
		tally := func(n *atomic.Int64, e, other api.Errno) {
			if e == api.OK {
				n.Add(1)
			} else if e != other {
				t.Errorf("round %d: %d", round, e)
			}
		}
		together(8, func(int) { tally(&made, s.Create("a"), api.ErrExists) })
		together(8, func(int) { tally(&published, s.Publish("a"), api.ErrOut) })
		together(8, func(int) { tally(&gone, s.Delete("a"), api.ErrNoBlob) })
		if made.Load() != 1 || published.Load() != 1 || gone.Load() != 1 {
			t.Fatalf("round %d: %d made it, %d published it, %d deleted it", round, made.Load(), published.Load(), gone.Load())
		}
	}
}

func TestAppendsOfSeveralStandWhole(t *testing.T) {
	const each, size = 3000, 7
	s := New()
	s.Create("a")
	together(8, func(who int) {
		for i := range each {
			s.Append("a", bytes.Repeat([]byte{byte(who), byte(i)}, size))
		}
	})
	s.Publish("a")
	b, _ := s.Read("a", 0, 1<<30)
	if len(b) != 8*each*2*size {
		t.Fatalf("%d bytes", len(b))
	}
	var next [8]int
	for piece := range slices.Chunk(b, 2*size) {
		who := piece[0]
		if !bytes.Equal(piece, bytes.Repeat([]byte{who, byte(next[who])}, size)) {
			t.Fatalf("the piece %d of %d: %x", next[who], who, piece)
		}
		next[who]++
	}
}

func TestAStopComesOnce(t *testing.T) {
	for round := range 200 {
		s := New()
		s.Create("a")
		s.StopAt("a", 21)
		var right atomic.Int64
		together(6, func(who int) {
			for s.Append("a", []byte("xy")) == api.OK {
				right.Add(1)
			}
		})
		if right.Load() != 10 || len(bytesIn(s, "a")) != 21 {
			t.Fatalf("round %d: %d appended, %d bytes", round, right.Load(), len(bytesIn(s, "a")))
		}
	}
}

func TestReadersSeeWholeChanges(t *testing.T) {
	s := holding(t, "a", "\x00\x00\x00\x00", "out")
	var reads, given, most atomic.Int64
	together(6, func(who int) {
		for range 3000 {
			switch who {
			case 0:
				s.Flip("a", 0, 0xffffffff)
			case 1:
				s.Resize("a", -4)
				s.Resize("a", 4)
			default:
				b, e := s.Read("a", 0, 9)
				if e != api.OK || len(b) != 0 && string(b) != "\x00\x00\x00\x00" && string(b) != "\xff\xff\xff\xff" {
					t.Errorf("%x, %d", b, e)
				}
				reads.Add(1)
				given.Add(int64(len(b)))
				if len(b) > 0 {
					most.Store(int64(len(b)))
				}
			}
		}
	})
	if m := s.Meter(); m != (api.Meter{Reads: reads.Load(), Bytes: given.Load(), Greatest: int(most.Load())}) {
		t.Errorf("%v, want %d, %d, %d", m, reads.Load(), given.Load(), most.Load())
	}
}

// someOrder looks for an order of the calls, each one's own as they were made, in which the plain store answers as the program did, and holds what it holds at the end.
func someOrder(p *plain, rows [][]call, said [][]string, end string) bool {
	left := false
	for who, row := range rows {
		if len(row) == 0 {
			continue
		}
		left = true
		next := p.copied()
		if row[0].on(next) != said[who][0] {
			continue
		}
		rows2, said2 := slices.Clone(rows), slices.Clone(said)
		rows2[who], said2[who] = row[1:], said[who][1:]
		if someOrder(next, rows2, said2, end) {
			return true
		}
	}
	return !left && allOf(p, p.find) == end
}

// allOf tells all that a store holds.
func allOf(s calls, find func(string) *plainBlob) string {
	text := fmt.Sprint(s.List(""), s.Meter())
	for _, info := range s.List("") {
		text += fmt.Sprintf(" %x", bytesOf(find(info.Name).bits))
	}
	return text
}

func TestCallsOfSeveralComeToSomeOrder(t *testing.T) {
	r := rand.New(rand.NewSource(6))
	for round := range 1500 {
		s, p := New(), &plain{}
		for range r.Intn(6) {
			c := someCall(r, []string{"a", "b"})
			c.on(s)
			c.on(p)
		}
		rows, said := make([][]call, 3), make([][]string, 3)
		for who := range rows {
			for range 4 {
				rows[who] = append(rows[who], someCall(r, []string{"a", "b"}))
			}
		}
		together(3, func(who int) {
			for _, c := range rows[who] {
				said[who] = append(said[who], c.on(s))
			}
		})
		end := allOf(s, func(name string) *plainBlob { return &plainBlob{bits: bitsOf([]byte(bytesIn(s, name)))} })
		if !someOrder(p, rows, said, end) {
			t.Fatalf("round %d: no order of %+v answers %v and ends with %s", round, rows, said, end)
		}
	}
}
