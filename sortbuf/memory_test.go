package sortbuf

import (
	"math/rand"
	"runtime"
	"slices"
	"strings"
	"testing"
	"unsafe"

	"winnow/api"
)

// 10.8

// scratch hands out texts that are changed when the call is over: whoever has kept one shows it.
type scratch struct {
	buffers [][]byte
}

func (s *scratch) text(of string) string {
	b := []byte(of)
	s.buffers = append(s.buffers, b)
	return unsafe.String(unsafe.SliceData(b), len(b))
}

func (s *scratch) record(r api.Record) api.Record {
	return rec(r.Part, s.text(r.Key), s.text(r.Value))
}

// over changes all that was handed out.
func (s *scratch) over() {
	for _, b := range s.buffers {
		for i := range b {
			b[i] = '#'
		}
	}
	s.buffers = nil
}

// roomy tells the list with room behind its end, and all of it.
func roomy(l []api.Record) (list, whole []api.Record) {
	whole = append(slices.Clone(l), rec(-9, "room", "1"), rec(9, "room", "2"), rec(0, "", "3"))
	return whole[:len(l)], whole
}

func TestSortChangesNothing(t *testing.T) {
	random := rand.New(rand.NewSource(108))
	for range 300 {
		list, whole := roomy(randomRecords(random, random.Intn(70)))
		before := slices.Clone(whole)
		Sort(list)
		isSame(t, "what was handed in", whole, before)
	}
}

// scribbled writes into all of a list, and into the room behind it.
func scribbled(l []api.Record) {
	l = append(l, rec(-9, "scribble", ""))
	l = l[:cap(l)]
	for i := range l {
		l[i] = rec(-9, "scribble", "scribble")
	}
}

func TestSortIsNew(t *testing.T) {
	random := rand.New(rand.NewSource(1081))
	for range 300 {
		list, whole := roomy(randomRecords(random, random.Intn(70)))
		before := slices.Clone(whole)
		first, second := Sort(list), Sort(list)
		scribbled(first)
		isSame(t, "what was handed in", whole, before)
		isSame(t, "the second answer", second, plainSort(list))
		isSame(t, "the third answer", Sort(list), plainSort(list))
		scribbled(whole[:0])
		isSame(t, "the second answer", second, plainSort(before[:len(list)]))
	}
}

func TestSortKeepsNoText(t *testing.T) {
	random := rand.New(rand.NewSource(1082))
	for range 200 {
		list := randomRecords(random, random.Intn(70))
		var hand scratch
		handed := make([]api.Record, len(list))
		for i, r := range list {
			handed[i] = hand.record(r)
		}
		sorted := Sort(handed)
		hand.over()
		isSame(t, "Sort of texts that change", sorted, plainSort(list))
	}
}

func TestBufferKeepsNoText(t *testing.T) {
	random := rand.New(rand.NewSource(1083))
	for range 200 {
		list := randomRecords(random, random.Intn(70))
		b := makes(t, 1<<24)
		var hand scratch
		for i, r := range list {
			adds(t, b, api.OK, hand.record(r))
			hand.over()
			holds(t, b, i+1, plainCosts(list[:i+1]))
		}
		isSame(t, "Take of texts that change", b.Take(), plainSort(list))
	}
}

func TestTakeIsNew(t *testing.T) {
	random := rand.New(rand.NewSource(1084))
	for range 300 {
		b := makes(t, 1<<24)
		var taken, want [][]api.Record
		for range 5 {
			list := randomRecords(random, random.Intn(40))
			for _, r := range list {
				adds(t, b, api.OK, r)
			}
			l := b.Take()
			isSame(t, "Take", l, plainSort(list))
			if random.Intn(2) == 0 {
				scribbled(l)
				isSame(t, "Take twice", b.Take(), nil)
				holds(t, b, 0, 0)
			} else {
				taken, want = append(taken, l), append(want, plainSort(list))
			}
		}
		for i := range taken {
			isSame(t, "an earlier Take", taken[i], want[i])
		}
	}
}

// live tells how many bytes are held.
func live() int64 {
	runtime.GC()
	runtime.GC()
	var m runtime.MemStats
	runtime.ReadMemStats(&m)
	return int64(m.HeapAlloc)
}

// A buffer that was taken from holds on to nothing, and one with records not to the text that they were cut from.
func TestLittleIsKept(t *testing.T) {
	before := live()
	b := makes(t, 1<<24)
	for i := range 1 << 14 {
		adds(t, b, api.OK, rec(0, "key", strings.Repeat("v", 512+i%2)))
	}
	b.Take()
	if grown := live() - before; grown > 1<<20 {
		t.Errorf("behind Take %d bytes are kept", grown)
	}
	for range 200 {
		text := strings.Repeat("t", 1<<16)
		adds(t, b, api.OK, rec(0, text[7:9], text[9:10]))
	}
	if grown := live() - before; grown > 2<<20 {
		t.Errorf("with 200 short records %d bytes are kept", grown)
	}
	runtime.KeepAlive(b)
}

// Lists may be sorted by several at one time.
func TestSeveralSort(t *testing.T) {
	random := rand.New(rand.NewSource(1085))
	list := randomRecords(random, 300)
	want := plainSort(list)
	done := make(chan bool)
	for range 8 {
		go func() {
			ok := true
			for range 20 {
				ok = ok && slices.Equal(Sort(list), want)
			}
			done <- ok
		}()
	}
	for range 8 {
		if !<-done {
			t.Errorf("at one time another order")
		}
	}
}
