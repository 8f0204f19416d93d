package merge

import (
	"math/rand"
	"runtime"
	"slices"
	"strings"
	"testing"
	"unsafe"
	"weak"

	"winnow/api"
)

// 11.6

// scratch hands out texts that are changed when the call is over: whoever has kept one shows it.
type scratch struct {
	buffers [][]byte
}

func (s *scratch) text(of string) string {
	b := []byte(of)
	s.buffers = append(s.buffers, b)
	return unsafe.String(unsafe.SliceData(b), len(b))
}

// over changes all that was handed out.
func (s *scratch) over() {
	for _, b := range s.buffers {
		for i := range b {
			b[i] = '#'
		}
	}
	s.buffers = nil
}

// The list of sources is the caller's: it is not changed, and what becomes of it later is not seen.
func TestSourcesAreCopied(t *testing.T) {
	random := rand.New(rand.NewSource(116))
	for _, count := range counts() {
		for range 10 {
			scripts := sortedRows(random, count)
			h := deal(scripts)
			wrong := 0
			whole := append(h.sources(), func() (thing, bool, api.Errno) {
				wrong++
				return thing{}, true, api.OK
			})
			m := makes(t, byNumber, whole[:count]...)
			clear(whole)
			list, err := told(t, m)
			if err != api.OK || wrong != 0 {
				t.Fatalf("error %d, asked in the room behind %d times", err, wrong)
			}
			isSame(t, "all", list, plainSort(things(scripts)))
		}
	}
}

// The list is as it was, source by source, and so is the room behind it: each still asks for its own.
func TestSourcesAreNotMoved(t *testing.T) {
	h := deal(rows([]int{9, 9}, []int{1, 2, 3}, nil, []int{0, 5}, []int{7}))
	from := h.sources()
	told(t, makes(t, byNumber, from[:4]...))
	h.asked = nil
	for i := range from {
		from[i]()
	}
	isSame(t, "asked", h.asked, []int{0, 1, 2, 3, 4})
}

// roomy tells lists with room behind their ends, and all of them.
func roomy(lists [][]api.Record) (handed, whole [][]api.Record) {
	for _, l := range lists {
		all := append(slices.Clone(l), rec(-9, "room", "1"), rec(9, "room", "2"))
		whole = append(whole, all)
	}
	for i, l := range lists {
		handed = append(handed, whole[i][:len(l)])
	}
	handed = append(handed, []api.Record{rec(5, "room", "3")})
	return handed[:len(lists)], append(whole, handed[len(lists)])
}

func deepClone(lists [][]api.Record) [][]api.Record {
	var copied [][]api.Record
	for _, l := range lists {
		copied = append(copied, slices.Clone(l))
	}
	return copied
}

func isUnchanged(t *testing.T, what string, got, want [][]api.Record) {
	t.Helper()
	if len(got) != len(want) {
		t.Fatalf("%s: %d lists, and not %d", what, len(got), len(want))
	}
	for i := range got {
		isSame(t, what, got[i], want[i])
	}
}

// scribbled writes into all of a list, and into the room behind it.
func scribbled(l []api.Record) {
	l = append(l, rec(-9, "scribble", ""))
	l = l[:cap(l)]
	for i := range l {
		l[i] = rec(-9, "scribble", "scribble")
	}
}

func TestRecordsChangesNothing(t *testing.T) {
	random := rand.New(rand.NewSource(1161))
	for range 500 {
		lists := randomLists(random, random.Intn(12))
		handed, whole := roomy(lists)
		before := deepClone(whole)
		outer := deepClone(handed[:len(lists)+1])
		first, _ := Records(handed)
		second, err := Records(handed)
		isUnchanged(t, "the lists and their room", whole, before)
		isUnchanged(t, "the list of lists and its room", handed[:len(lists)+1], outer)

		want, _ := plainRecords(lists)
		scribbled(first)
		isUnchanged(t, "the lists, behind a scribble", whole, before)
		isSame(t, "the second answer", second, want)
		for _, l := range whole {
			scribbled(l[:0])
		}
		isSame(t, "the second answer", second, want)
		if err != api.OK {
			t.Fatalf("error %d", err)
		}
	}
}

// Lists that share their memory with each other.
func TestRecordsOfOneListTwice(t *testing.T) {
	list := []api.Record{rec(0, "a", "1"), rec(0, "b", "2"), rec(0, "c", "3")}
	before := slices.Clone(list)
	records(t, [][]api.Record{list, list[1:], list[:2], list})
	isSame(t, "the list", list, before)
}

func TestRecordsKeepsNoText(t *testing.T) {
	random := rand.New(rand.NewSource(1162))
	for range 300 {
		lists := randomLists(random, random.Intn(12))
		handed := deepClone(lists)
		var hand scratch
		for _, l := range handed {
			for i, r := range l {
				l[i] = rec(r.Part, hand.text(r.Key), hand.text(r.Value))
			}
		}
		got, _ := Records(handed)
		hand.over()
		want, _ := plainRecords(lists)
		isSame(t, "Records of texts that change", got, want)
	}
}

// Each list of values is new memory, and so are the texts.
func TestGroupsAreNew(t *testing.T) {
	random := rand.New(rand.NewSource(1163))
	for range 500 {
		list := randomPairs(random)
		before := slices.Clone(list)
		want := plainGroups(list)
		var hand scratch
		seq := Groups(func(yield func(api.Pair) bool) {
			for _, p := range list {
				if !yield(api.Pair{Key: hand.text(p.Key), Value: hand.text(p.Value)}) {
					return
				}
				hand.over()
			}
		})
		for range 2 {
			var keys []string
			var lists [][]string
			for key, values := range seq {
				keys, lists = append(keys, key), append(lists, values)
			}
			if len(lists) != len(want) {
				t.Fatalf("%d groups, and not %d", len(lists), len(want))
			}
			for i, values := range lists {
				if got := groupOf(keys[i], values); got != want[i] {
					t.Fatalf("%v, and not %v", got, want[i])
				}
				values = append(values, "scribble")
				values = values[:cap(values)]
				for k := range values {
					values[k] = "scribble"
				}
			}
		}
		isSame(t, "the pairs", list, before)
	}
}

// A list that was written into while its group was gone through shows in no other.
func TestGroupsWrittenIntoOnTheWay(t *testing.T) {
	list := pairsOf("a=1 a=2 a=3 b=4 b=5 a=6 b=7")
	var got []group
	for key, values := range Groups(slices.Values(list)) {
		got = append(got, groupOf(key, values))
		values = append(values, "x")
		values = values[:cap(values)]
		clear(values)
	}
	isSame(t, "all", got, plainGroups(list))
}

// big is a thing of which many would be noticed.
type big struct {
	n    int
	room [1000]byte
}

func byBig(a, b *big) int {
	return a.n - b.n
}

// maker makes big things of these numbers, one by one, and knows which of them are still held.
type maker struct {
	made []weak.Pointer[big]
}

func (k *maker) source(end api.Errno, numbers ...int) func() (*big, bool, api.Errno) {
	return func() (*big, bool, api.Errno) {
		if len(numbers) == 0 {
			return nil, false, end
		}
		b := &big{n: numbers[0]}
		numbers = numbers[1:]
		k.made = append(k.made, weak.Make(b))
		return b, true, api.OK
	}
}

// held tells the numbers of the things that somebody has.
func (k *maker) held() []int {
	runtime.GC()
	var numbers []int
	for _, w := range k.made {
		if b := w.Value(); b != nil {
			numbers = append(numbers, b.n)
		}
	}
	slices.Sort(numbers)
	return numbers
}

// nextNumber forgets the thing itself.
func nextNumber(m *Merge[*big]) int {
	if b, some, _ := m.Next(); some {
		return b.n
	}
	return -1
}

// A merge holds just one thing of each source, and none of one that is at its end.
func TestOneThingOfEachIsHeld(t *testing.T) {
	var k maker
	m := makes(t, byBig, k.source(api.OK, 1, 2, 30), k.source(api.OK, 3), k.source(api.OK, 4, 5, 6))
	for _, c := range []struct {
		n    int
		held []int
	}{
		{1, []int{1, 3, 4}},
		{2, []int{2, 3, 4}},
		{3, []int{3, 4, 30}},
		{4, []int{4, 30}},
		{5, []int{5, 30}},
		{6, []int{6, 30}},
		{30, []int{30}},
		{-1, nil},
	} {
		if n := nextNumber(m); n != c.n {
			t.Fatalf("%d, and not %d", n, c.n)
		}
		isSame(t, "held", k.held(), c.held)
	}
	runtime.KeepAlive(m)
}

// A merge that is over with an error holds nothing.
func TestNothingIsHeldBehindAnError(t *testing.T) {
	for _, last := range [][]int{{1}, {1, 0}} {
		var k maker
		m := makes(t, byBig, k.source(api.ErrCorrupt, last...), k.source(api.OK, 3, 4), k.source(api.OK, 5))
		if n := nextNumber(m); n != 1 {
			t.Fatalf("%d, and not 1", n)
		}
		if n := nextNumber(m); n != -1 || m.Err() == api.OK {
			t.Fatalf("%d, Err %d", n, m.Err())
		}
		isSame(t, "held", k.held(), nil)
		runtime.KeepAlive(m)
	}
}

// roomySource is a source that holds on to much, which is noted.
func roomySource(held *[]weak.Pointer[[1 << 16]byte], count int) func() (int, bool, api.Errno) {
	room := new([1 << 16]byte)
	*held = append(*held, weak.Make(room))
	return func() (int, bool, api.Errno) {
		count--
		room[0]++
		return int(room[0]), count >= 0, api.OK
	}
}

// roomyCompare is a compare that does, too.
func roomyCompare(held *[]weak.Pointer[[1 << 16]byte]) func(a, b int) int {
	room := new([1 << 16]byte)
	*held = append(*held, weak.Make(room))
	return func(a, b int) int {
		room[0]++
		return a - b
	}
}

// A source that is at its end is let go, and all of them, and compare, when the merge is over.
func TestSourcesAreLetGo(t *testing.T) {
	var rooms []weak.Pointer[[1 << 16]byte]
	left := func() (count int) {
		runtime.GC()
		for _, w := range rooms {
			if w.Value() != nil {
				count++
			}
		}
		return count
	}
	m := makes(t, roomyCompare(&rooms), roomySource(&rooms, 0), roomySource(&rooms, 1), roomySource(&rooms, 3))
	for i, want := range []int{3, 2, 2, 2, 0, 0} {
		m.Next()
		if got := left(); got != want {
			t.Errorf("behind Next %d %d of them are held, and not %d", i, got, want)
		}
	}
	runtime.KeepAlive(m)
}

// Short texts do not hold on to the long ones that they were cut from.
func TestLittleIsKept(t *testing.T) {
	var before, after runtime.MemStats
	runtime.GC()
	runtime.GC()
	runtime.ReadMemStats(&before)
	var kept [][]api.Record
	var values []string
	for range 200 {
		text := strings.Repeat("t", 1<<16)
		l, _ := Records([][]api.Record{{rec(0, text[7:9], text[9:10])}})
		kept = append(kept, l)
		for key, l := range Groups(slices.Values([]api.Pair{{Key: text[:1], Value: text[1:2]}})) {
			values = append(values, key, l[0])
		}
	}
	runtime.GC()
	runtime.GC()
	runtime.ReadMemStats(&after)
	if grown := int64(after.HeapAlloc) - int64(before.HeapAlloc); grown > 1<<20 {
		t.Errorf("with 200 short records %d bytes are kept", grown)
	}
	runtime.KeepAlive(kept)
	runtime.KeepAlive(values)
}

// Lists may be merged by several at one time, and so may pairs be gathered.
func TestSeveralAtOneTime(t *testing.T) {
	random := rand.New(rand.NewSource(1164))
	lists := randomLists(random, 30)
	want, _ := plainRecords(lists)
	pairs := pairsOf("a=1 a=2 b=3 a=4")
	seq := Groups(slices.Values(pairs))
	done := make(chan bool)
	for range 8 {
		go func() {
			ok := true
			for range 20 {
				got, err := Records(lists)
				ok = ok && err == api.OK && slices.Equal(got, want) && slices.Equal(gathered(seq), plainGroups(pairs))
			}
			done <- ok
		}()
	}
	for range 8 {
		if !<-done {
			t.Error("at one time another answer")
		}
	}
}
