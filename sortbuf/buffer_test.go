package sortbuf

import (
	"math"
	"math/rand"
	"slices"
	"strings"
	"testing"

	"winnow/api"
)

// 10.4

func TestNew(t *testing.T) {
	for _, budget := range []int{math.MinInt, -256, -1, 0, 1, 32, 255, 1<<24 + 1, 1 << 25, 1<<32 + 256, math.MaxInt} {
		if b, e := New(budget); b != nil || e != api.ErrArg {
			t.Errorf("New(%d): %v, %d", budget, b, e)
		}
	}
	for _, budget := range []int{256, 257, 1000, 1<<24 - 1, 1 << 24} {
		b := makes(t, budget)
		holds(t, b, 0, 0)
		if l := b.Take(); len(l) != 0 {
			t.Errorf("Take of a new one: %s", written(l))
		}
	}
}

// 10.5

func TestAddExample(t *testing.T) {
	b := makes(t, 256)
	r := rec(0, "ab", "cd")
	for i := range 7 {
		adds(t, b, api.OK, r)
		holds(t, b, i+1, 36*(i+1))
	}
	adds(t, b, api.ErrFull, r)
	holds(t, b, 7, 252)
	isSame(t, "Take", b.Take(), slices.Repeat([]api.Record{r}, 7))
	holds(t, b, 0, 0)
	adds(t, b, api.OK, r)
	holds(t, b, 1, 36)
}

// A buffer of any budget that is just full, and a record more.
func TestJustFull(t *testing.T) {
	for _, budget := range []int{256, 257, 1000, 4096, 1<<24 - 1, 1 << 24} {
		for _, first := range []int{32, 33, 100, budget - 32} {
			b := makes(t, budget)
			adds(t, b, api.OK, costing(first))
			holds(t, b, 1, first)
			adds(t, b, api.ErrFull, costing(budget-first+1))
			holds(t, b, 1, first)
			adds(t, b, api.OK, costing(budget-first))
			holds(t, b, 2, budget)
			adds(t, b, api.ErrFull, rec(0, "", ""), rec(0, "a", ""), rec(-1, "", ""), costing(budget), costing(budget+1))
			holds(t, b, 2, budget)
			isSame(t, "Take of a full one", b.Take(), []api.Record{costing(first), costing(budget - first)})
		}
	}
}

// A record that is refused changes nothing, and one that costs less may have room behind it.
func TestRefusedIsNothing(t *testing.T) {
	b := makes(t, 256)
	adds(t, b, api.OK, rec(1, "b", "1"), rec(0, "b", "2"))
	holds(t, b, 2, 68)
	adds(t, b, api.ErrFull, rec(0, "a", strings.Repeat("x", 156)), costing(189), costing(1<<20))
	holds(t, b, 2, 68)
	adds(t, b, api.OK, rec(0, "a", strings.Repeat("x", 122)))
	holds(t, b, 3, 223)
	adds(t, b, api.ErrFull, rec(0, "a", "y"))
	adds(t, b, api.OK, rec(0, "a", ""))
	holds(t, b, 4, 256)
	isSame(t, "Take", b.Take(), []api.Record{rec(0, "a", strings.Repeat("x", 122)), rec(0, "a", ""), rec(0, "b", "2"), rec(1, "b", "1")})
}

// One record of any cost has room in a buffer without records, and nothing behind it.
func TestGreatOne(t *testing.T) {
	for _, budget := range []int{256, 1000, 1 << 24} {
		for _, cost := range []int{budget - 31, budget, budget + 1, budget + 1824, 1 << 25} {
			b := makes(t, budget)
			great := costing(cost)
			for range 2 {
				adds(t, b, api.OK, great)
				holds(t, b, 1, cost)
				adds(t, b, api.ErrFull, rec(0, "", ""), rec(5, "k", "v"), great)
				holds(t, b, 1, cost)
				isSame(t, "a great one", b.Take(), []api.Record{great})
				holds(t, b, 0, 0)
			}
			adds(t, b, api.OK, rec(0, "", ""))
			adds(t, b, api.ErrFull, great, costing(budget-31))
			holds(t, b, 1, 32)
		}
	}
}

// What a record says is not asked.
func TestAnyRecord(t *testing.T) {
	for _, part := range partitions() {
		for _, key := range append(texts(), strings.Repeat("k", 1025), strings.Repeat("\xff", 65536)) {
			b := makes(t, 1<<24)
			l := []api.Record{rec(part, key, strings.Repeat("v", 1025)), rec(part, key, key), rec(part, "", "")}
			adds(t, b, api.OK, l...)
			holds(t, b, 3, plainCosts(l))
			isSame(t, "any record", b.Take(), plainSort(l))
		}
	}
}

// As many records as a buffer can have.
func TestMostRecords(t *testing.T) {
	b := makes(t, 1<<24)
	var l []api.Record
	for i := range 1 << 19 {
		l = append(l, rec(i*7919%(1<<16), "", ""))
	}
	adds(t, b, api.OK, l...)
	holds(t, b, 1<<19, 1<<24)
	adds(t, b, api.ErrFull, rec(0, "", ""))
	slices.SortStableFunc(l, plainCompare)
	isSame(t, "as many as there can be", b.Take(), l)
	holds(t, b, 0, 0)
}

// 10.6

func TestTake(t *testing.T) {
	b := makes(t, 1000)
	l := []api.Record{rec(1, "b", "1"), rec(0, "z", "2"), rec(1, "a", "3"), rec(1, "b", "4"), rec(0, "z", "5")}
	adds(t, b, api.OK, l...)
	isSame(t, "Take", b.Take(), []api.Record{l[1], l[4], l[2], l[0], l[3]})
	holds(t, b, 0, 0)
	isSame(t, "Take twice", b.Take(), nil)
	holds(t, b, 0, 0)
	adds(t, b, api.OK, l[3], l[0])
	holds(t, b, 2, 68)
	isSame(t, "behind Take", b.Take(), []api.Record{l[3], l[0]})
	isSame(t, "Take twice", b.Take(), nil)
	adds(t, b, api.OK, l[2])
	isSame(t, "one", b.Take(), []api.Record{l[2]})
}

// The whole budget is there again behind each Take.
func TestTakeBeginsAnew(t *testing.T) {
	b := makes(t, 256)
	for range 5 {
		adds(t, b, api.OK, slices.Repeat([]api.Record{rec(0, "", "")}, 8)...)
		holds(t, b, 8, 256)
		adds(t, b, api.ErrFull, rec(0, "", ""))
		if l := b.Take(); len(l) != 8 {
			t.Fatalf("Take: %d records", len(l))
		}
		holds(t, b, 0, 0)
	}
}

// 10.7

func TestNilBuffer(t *testing.T) {
	var b *Buffer
	for range 2 {
		adds(t, b, api.ErrNil, rec(0, "a", "b"), api.Record{}, costing(1<<20))
		holds(t, b, 0, 0)
		if l := b.Take(); len(l) != 0 {
			t.Errorf("Take of a nil buffer: %s", written(l))
		}
	}
}

func TestZeroBuffer(t *testing.T) {
	for _, one := range []api.Record{{}, rec(2, "k", "v"), costing(256), costing(1 << 25)} {
		var b Buffer
		holds(t, &b, 0, 0)
		isSame(t, "none", b.Take(), nil)
		for range 3 {
			adds(t, &b, api.OK, one)
			holds(t, &b, 1, plainCost(one))
			adds(t, &b, api.ErrFull, api.Record{}, one, rec(-1, "", ""))
			holds(t, &b, 1, plainCost(one))
			isSame(t, "one at a time", b.Take(), []api.Record{one})
			holds(t, &b, 0, 0)
			isSame(t, "none", b.Take(), nil)
		}
	}
}

// 10.5 to 10.7, and what follows: Len and Used behind each call of any row of calls.
func TestAnyCalls(t *testing.T) {
	random := rand.New(rand.NewSource(107))
	for round := range 400 {
		budget := []int{0, 256, 257, 300, 512, 2000}[random.Intn(6)]
		b, plain := &Buffer{}, &plainBuffer{budget: budget}
		if budget > 0 {
			b = makes(t, budget)
		}
		for call := range 120 {
			if random.Intn(9) == 0 {
				isSame(t, "Take", b.Take(), plain.take())
			} else {
				r := randomRecords(random, 1)[0]
				r.Value = strings.Repeat(string(rune('a'+call%26)), []int{0, 1, 2, 9, 60, 300}[random.Intn(6)])
				if got, want := b.Add(r), plain.add(r); got != want {
					t.Fatalf("%d: Add: %d, and not %d", round, got, want)
				}
			}
			holds(t, b, len(plain.list), plainCosts(plain.list))
			if b.Used() > budget && b.Len() != 1 {
				t.Fatalf("%d: %d records cost %d of %d", round, b.Len(), b.Used(), budget)
			}
		}
	}
}

// Takes that are merged, the earlier ones first of alike ones, are Sort of the list.
func TestTakesMerge(t *testing.T) {
	random := rand.New(rand.NewSource(1071))
	for range 200 {
		list := randomRecords(random, random.Intn(200))
		if len(list) > 0 {
			list[random.Intn(len(list))].Value = strings.Repeat("x", 300+random.Intn(2000))
		}
		b := makes(t, 256+random.Intn(2000))
		var merged []api.Record
		takes := 0
		take := func() {
			l := b.Take()
			if !slices.IsSortedFunc(l, plainCompare) {
				t.Fatalf("a Take that is not sorted: %s", written(l))
			}
			merged = plainMerge(merged, l)
			takes++
		}
		for _, r := range list {
			if b.Add(r) == api.ErrFull {
				take()
				adds(t, b, api.OK, r)
			}
		}
		take()
		isSame(t, "the merge of Takes", merged, Sort(list))
		if len(list) > 100 && takes < 2 {
			t.Fatalf("%d records in %d Takes", len(list), takes)
		}
	}
}

// Buffers do not know of each other.
func TestTwoBuffers(t *testing.T) {
	a, b := makes(t, 256), makes(t, 300)
	adds(t, a, api.OK, costing(200))
	adds(t, b, api.OK, costing(280))
	holds(t, a, 1, 200)
	holds(t, b, 1, 280)
	adds(t, a, api.OK, costing(56))
	adds(t, b, api.ErrFull, costing(56))
	isSame(t, "the other one's Take", b.Take(), []api.Record{costing(280)})
	isSame(t, "its own Take", a.Take(), []api.Record{costing(200), costing(56)})
}
