package extsort

import (
	"math"
	"math/rand"
	"strconv"
	"strings"
	"testing"

	"winnow/api"
	"winnow/store"
)

// 12.1

func refusesNew(t *testing.T, s *store.Store, m measures, want api.Errno) {
	t.Helper()
	if x, e := New(s, m.prefix, m.parts, m.budget, m.fan, m.shape); x != nil || e != want {
		t.Errorf("New of %v: %v, %d, and not %d", m, x, e, want)
	}
}

// bound is one of New's measures, with what it may be and what not.
type bound struct {
	set        func(m *measures, n int)
	may, maynt []int
}

func bounds() []bound {
	return []bound{
		{func(m *measures, n int) { m.parts = n }, []int{1, 2, 300, 65534, 65535}, []int{math.MinInt, -1, 0, 65536, 1<<32 + 1, math.MaxInt}},
		{func(m *measures, n int) { m.budget = n }, []int{256, 257, 1 << 20, 1<<24 - 1, 1 << 24}, []int{math.MinInt, -256, -1, 0, 32, 255, 1<<24 + 1, 1<<32 + 256, math.MaxInt}},
		{func(m *measures, n int) { m.fan = n }, []int{2, 3, 63, 64}, []int{math.MinInt, -2, -1, 0, 1, 65, 1<<32 + 2, math.MaxInt}},
		{func(m *measures, n int) { m.shape.Block = n }, []int{64, 65, 4096, 65535, 65536}, []int{math.MinInt, -64, 0, 1, 63, 65537, math.MaxInt}},
		{func(m *measures, n int) { m.shape.Restart = n }, []int{1, 2, 63, 64}, []int{math.MinInt, -1, 0, 65, math.MaxInt}},
		{func(m *measures, n int) { m.shape.Bits = n }, []int{0, 1, 15, 16}, []int{math.MinInt, -1, 17, math.MaxInt}},
	}
}

func TestNewBounds(t *testing.T) {
	s := store.New()
	for _, b := range bounds() {
		for _, n := range b.may {
			m := examples()
			b.set(&m, n)
			x := makes(t, s, m)
			isStats(t, x, 0, 0, 0)
			isTold(t, finishes(t, x), nil)
		}
		for _, n := range b.maynt {
			m := examples()
			b.set(&m, n)
			refusesNew(t, s, m, api.ErrArg)
			refusesNew(t, nil, m, api.ErrNil)
		}
	}
	refusesNew(t, nil, examples(), api.ErrNil)
	refusesNew(t, s, measures{}, api.ErrArg)
	refusesNew(t, nil, measures{}, api.ErrNil)
	isNames(t, s, "")
	if s.Meter() != (api.Meter{}) {
		t.Errorf("New reads: %v", s.Meter())
	}
}

// A sorter of the measures' bounds sorts.
func TestBoundsSort(t *testing.T) {
	random := rand.New(rand.NewSource(121))
	for _, b := range bounds() {
		for _, n := range b.may {
			m := examples()
			b.set(&m, n)
			both := makesBoth(t, m)
			list := randomRecords(random, m.parts, 200)
			list = append(list, rec(m.parts-1, "z", ""), rec(0, "", ""), rec(m.parts-1, "", ""))
			both.add(t, list...)
			both.finish(t)
		}
	}
}

// New takes any prefix: what names there may be the store says when a run is laid down.
func TestAnyPrefix(t *testing.T) {
	for _, prefix := range []string{"P", "a b", "\x00", "\xff", "a/b", "é", strings.Repeat("p", 39), strings.Repeat("p", 5000)} {
		s := store.New()
		m := examples()
		m.prefix = prefix
		x := makes(t, s, m)
		seven := letters(7)
		adds(t, x, api.OK, seven...)
		f := finishes(t, x)
		isTold(t, f, plainSort(seven))
		isClosed(t, f, api.OK)
		isNames(t, s, "")

		x = makes(t, s, m)
		adds(t, x, api.OK, seven...)
		adds(t, x, api.ErrName, rec(0, "x", ""))
		isBroken(t, x, api.ErrName, api.SortStats{Peak: 238})
		isNames(t, s, "")
	}
}

// letters tells records that cost 34 each, with falling keys.
func letters(count int) []api.Record {
	var l []api.Record
	for i := range count {
		l = append(l, rec(0, string(rune('z'-i%26)), strconv.Itoa(i%10)))
	}
	return l
}

// The chapter's examples.

func TestExample1(t *testing.T) {
	s := store.New()
	x := makes(t, s, examples())
	l := letters(7)
	adds(t, x, api.OK, l...)
	f := finishes(t, x)
	for i := range l {
		if r, some, e := f.Next(); r != l[6-i] || !some || e != api.OK {
			t.Fatalf("Next number %d: %v, %v, %d", i, r, some, e)
		}
	}
	isStats(t, x, 0, 0, 238)
	isNames(t, s, "")
	if s.Meter() != (api.Meter{}) {
		t.Errorf("the store is not as it was: %v", s.Meter())
	}
	isTold(t, f, nil)
	isClosed(t, f, api.OK)
}

func TestExample2(t *testing.T) {
	both := makesBoth(t, examples())
	s, x, l := both.store, both.x, letters(15)
	both.add(t, l[:7]...)
	isNames(t, s, "")
	both.add(t, l[7])
	isNames(t, s, "p.1")
	isStats(t, x, 1, 0, 238)
	isSame(t, "p.1", both.plain.row[0].list, plainSort(l[:7]))
	both.add(t, l[8:14]...)
	isNames(t, s, "p.1")
	both.add(t, l[14])
	isNames(t, s, "p.3")
	isStats(t, x, 2, 1, 238)
	isSame(t, "p.3", both.plain.row[0].list, plainSort(l[:14]))
	both.plain.isWritten(t, s)
	both.finish(t)
}

func TestExample3(t *testing.T) {
	s := store.New()
	x := makes(t, s, examples())
	l := letters(22)
	adds(t, x, api.OK, l...)
	isNames(t, s, "p.3 p.4")
	isStats(t, x, 3, 1, 238)
	f := finishes(t, x)
	isNames(t, s, "p.5")
	isStats(t, x, 3, 2, 238)
	isTold(t, f, plainSort(l))
	isNames(t, s, "p.5")
	isClosed(t, f, api.OK)
	isNames(t, s, "")
}

func TestExample4(t *testing.T) {
	for _, great := range []api.Record{rec(0, strings.Repeat("k", 1024), ""), rec(0, "k", strings.Repeat("v", 1023)), costing(257, "k")} {
		both := makesBoth(t, examples())
		both.add(t, great)
		isNames(t, both.store, "")
		isStats(t, both.x, 0, 0, plainCost(great))
		both.add(t, rec(0, "", ""))
		isNames(t, both.store, "p.1")
		isStats(t, both.x, 1, 0, plainCost(great))
		both.finish(t)
	}
	// Behind a small one it stands in a buffer of its own, too.
	both := makesBoth(t, examples())
	both.add(t, rec(0, "a", ""), costing(2080, strings.Repeat("k", 1024)), rec(0, "b", ""), costing(257, "c"), costing(257, "a"))
	isStats(t, both.x, 4, 3, 2080)
	both.finish(t)
}

func TestExample5(t *testing.T) {
	for _, cost := range []int{34, 200, 300} {
		for _, fan := range []int{2, 3, 64} {
			both := makesBoth(t, examples().withFan(fan))
			var l []api.Record
			for i, key := range []string{"b", "a", "b"} {
				r := costing(cost, key)
				r.Value = strconv.Itoa(i+1) + r.Value[1:]
				l = append(l, r)
			}
			both.add(t, l...)
			isSame(t, "plainly", plainSort(l), []api.Record{l[1], l[0], l[2]})
			both.finish(t)
		}
	}
}

// 12.2

func TestAddRefuses(t *testing.T) {
	s := store.New()
	m := examples()
	m.parts = 3
	x := makes(t, s, m)
	long := strings.Repeat("k", 1025)
	adds(t, x, api.ErrTooLarge, rec(0, long, ""), rec(2, "", long), rec(1, long, long), rec(-1, long, ""), rec(3, "", long), rec(0, strings.Repeat("k", 70000), ""))
	adds(t, x, api.ErrArg, rec(-1, "a", ""), rec(3, "a", ""), rec(math.MinInt, "", ""), rec(math.MaxInt, "", ""), rec(65535, long[1:], long[1:]))
	isStats(t, x, 0, 0, 0)
	adds(t, x, api.OK, rec(2, long[1:], long[1:]), rec(0, "", ""))
	isStats(t, x, 1, 0, 2080)
	f := finishes(t, x)
	isTold(t, f, []api.Record{rec(0, "", ""), rec(2, long[1:], long[1:])})
	isClosed(t, f, api.OK)
	var none *Sorter
	adds(t, none, api.ErrNil, rec(0, "a", ""), rec(-1, long, ""), api.Record{})
}

// A record that is refused is nowhere, wherever it comes, and the others are as if it had not been handed in.
func TestRefusedIsNothing(t *testing.T) {
	random := rand.New(rand.NewSource(122))
	for range 20 {
		m := randomMeasures(random)
		both := makesBoth(t, m)
		for _, r := range randomRecords(random, m.parts, 150) {
			adds(t, both.x, api.ErrTooLarge, rec(r.Part, strings.Repeat("k", 1025), r.Value), rec(-1, r.Key, strings.Repeat("v", 1025)))
			adds(t, both.x, api.ErrArg, rec(-1-r.Part, r.Key, r.Value), rec(m.parts+r.Part, r.Key, r.Value))
			both.plain.isAt(t, both.x, both.store)
			both.add(t, r)
		}
		both.finish(t)
	}
}

// state is a sorter of three partitions, and what it answers ahead of any look at a record.
type state struct {
	name string
	end  api.Errno
	make func(t *testing.T) *Sorter
}

func states() []state {
	fresh := func(t *testing.T) *Sorter {
		m := examples()
		m.parts = 3
		return makes(t, store.New(), m)
	}
	broken := func(t *testing.T) *Sorter {
		m := examples()
		m.parts, m.prefix = 3, "NO"
		x := makes(t, store.New(), m)
		adds(t, x, api.OK, costing(256, ""))
		adds(t, x, api.ErrName, rec(0, "", ""))
		return x
	}
	return []state{
		{"nil", api.ErrNil, func(t *testing.T) *Sorter { return nil }},
		{"finished", api.ErrOver, func(t *testing.T) *Sorter {
			x := fresh(t)
			finishes(t, x)
			return x
		}},
		{"finished, with records", api.ErrOver, func(t *testing.T) *Sorter {
			x := fresh(t)
			adds(t, x, api.OK, letters(30)...)
			finishes(t, x)
			return x
		}},
		{"broken and finished", api.ErrOver, func(t *testing.T) *Sorter {
			x := broken(t)
			refusesFinish(t, x, api.ErrName)
			return x
		}},
		{"broken by Finish", api.ErrOver, func(t *testing.T) *Sorter {
			s := store.New()
			x := makes(t, s, examples())
			adds(t, x, api.OK, letters(22)...)
			s.Create("p.5")
			refusesFinish(t, x, api.ErrExists)
			return x
		}},
		{"broken", api.ErrName, broken},
		{"fresh", api.OK, fresh},
	}
}

// Which error comes ahead of which.
func TestErrorsInOrder(t *testing.T) {
	long := strings.Repeat("k", 1025)
	for _, st := range states() {
		for _, row := range []struct {
			r    api.Record
			want api.Errno
		}{
			{rec(-1, long, ""), api.ErrTooLarge},
			{rec(3, "", long), api.ErrTooLarge},
			{rec(0, long, long), api.ErrTooLarge},
			{rec(-1, "a", "b"), api.ErrArg},
			{rec(3, "a", "b"), api.ErrArg},
			{rec(2, "a", "b"), api.OK},
		} {
			want := row.want
			if st.end != api.OK {
				want = st.end
			}
			x := st.make(t)
			before := x.Stats()
			adds(t, x, want, row.r, row.r)
			if want != api.OK && x.Stats() != before {
				t.Errorf("%s: Add of %v changes Stats from %v to %v", st.name, row.r, before, x.Stats())
			}
		}
		x := st.make(t)
		before := x.Stats()
		if st.end == api.OK {
			finishes(t, x)
		} else {
			refusesFinish(t, x, st.end)
		}
		behind := api.ErrOver
		if st.end == api.ErrNil {
			behind = api.ErrNil
		}
		for range 2 {
			refusesFinish(t, x, behind)
			adds(t, x, behind, rec(0, "a", ""), rec(-1, long, ""), rec(3, "", ""))
		}
		if x.Stats() != before {
			t.Errorf("%s: Finish changes Stats from %v to %v", st.name, before, x.Stats())
		}
	}
}

// Records of one cost that just fill the budget, and one more.
func TestJustFull(t *testing.T) {
	for _, row := range []struct{ budget, cost, room int }{
		{256, 32, 8}, {256, 33, 7}, {256, 34, 7}, {256, 36, 7}, {256, 37, 6}, {256, 64, 4}, {256, 65, 3}, {256, 85, 3}, {256, 86, 2},
		{256, 128, 2}, {256, 129, 1}, {256, 255, 1}, {256, 256, 1}, {256, 257, 1}, {256, 1056, 1},
		{257, 128, 2}, {257, 129, 1}, {511, 256, 1}, {512, 256, 2}, {1000, 100, 10}, {1000, 101, 9}, {4096, 32, 128}, {4095, 32, 127},
	} {
		m := examples()
		m.budget = row.budget
		both := makesBoth(t, m)
		for i := range row.room {
			both.add(t, costing(row.cost, ""))
			isStats(t, both.x, 0, 0, row.cost*(i+1))
			isNames(t, both.store, "")
		}
		both.add(t, costing(row.cost, ""))
		isStats(t, both.x, 1, 0, row.cost*row.room)
		isNames(t, both.store, "p.1")
		for range row.room - 1 {
			both.add(t, costing(row.cost, ""))
			isStats(t, both.x, 1, 0, row.cost*row.room)
		}
		both.add(t, costing(row.cost, ""))
		isStats(t, both.x, 2, 1, row.cost*row.room)
		isNames(t, both.store, "p.3")
		both.plain.isWritten(t, both.store)
		both.finish(t)
	}
}

// A buffer of the greatest budget that is just full.
func TestGreatestBudget(t *testing.T) {
	m := examples()
	m.budget, m.shape = 1<<24, shape(65536, 16, 0)
	s := store.New()
	x := makes(t, s, m)
	var l []api.Record
	for i := range 1 << 14 {
		l = append(l, rec(0, strconv.Itoa(i*7919%1000), ""))
		l[i].Value = strings.Repeat("v", 1024-32-len(l[i].Key))
	}
	adds(t, x, api.OK, l...)
	isStats(t, x, 0, 0, 1<<24)
	isNames(t, s, "")
	l = append(l, rec(0, "5", ""))
	adds(t, x, api.OK, l[1<<14])
	isStats(t, x, 1, 0, 1<<24)
	isNames(t, s, "p.1")
	isTold(t, finishes(t, x), plainSort(l))
}

// Which runs there are behind each Add, by how many of them have been laid down: written out.
func TestRowsByHand(t *testing.T) {
	for _, row := range []struct {
		fan  int
		want []string // for 1, 2, 3 .. runs from the buffer
	}{
		{2, []string{"p.1", "p.3", "p.3 p.4", "p.7", "p.7 p.8", "p.10 p.7", "p.10 p.11 p.7", "p.15", "p.15 p.16"}},
		{3, []string{"p.1", "p.1 p.2", "p.4", "p.4 p.5", "p.4 p.5 p.6", "p.4 p.8", "p.4 p.8 p.9", "p.10 p.4 p.8 p.9", "p.13", "p.13 p.14"}},
		{4, []string{"p.1", "p.1 p.2", "p.1 p.2 p.3", "p.5", "p.5 p.6", "p.5 p.6 p.7", "p.5 p.6 p.7 p.8", "p.10 p.5"}},
	} {
		both := makesBoth(t, examples().withFan(row.fan))
		for i, r := range runOfOne(len(row.want) + 1) {
			both.add(t, r)
			if i > 0 {
				isNames(t, both.store, row.want[i-1])
			}
			both.plain.isWritten(t, both.store)
		}
		both.finish(t)
	}
}

// Levels that carry over more than once in one Add.
func TestCarries(t *testing.T) {
	for _, row := range []struct{ fan, runs, merges int }{ // how many merges the Add that lays down the run of that number does
		{2, 1, 0}, {2, 2, 1}, {2, 3, 0}, {2, 4, 2}, {2, 6, 1}, {2, 8, 3}, {2, 12, 2}, {2, 16, 4}, {2, 64, 6}, {2, 96, 5},
		{3, 3, 1}, {3, 9, 2}, {3, 10, 0}, {3, 18, 2}, {3, 27, 3}, {3, 81, 4},
		{5, 25, 2}, {5, 125, 3}, {64, 63, 0}, {64, 64, 1}, {64, 65, 0}, {64, 128, 1},
	} {
		both := makesBoth(t, examples().withFan(row.fan))
		l := runOfOne(row.runs + 1)
		both.add(t, l[:row.runs]...)
		before := both.x.Stats()
		both.add(t, l[row.runs])
		isStats(t, both.x, before.Runs+1, before.Merges+row.merges, before.Peak)
		both.plain.isWritten(t, both.store)
		both.finish(t)
	}
}

// A fan of 64 carries twice.
func TestWideCarry(t *testing.T) {
	t.Parallel()
	both := makesBoth(t, examples().withFan(64))
	both.add(t, runOfOne(64*64)...)
	isStats(t, both.x, 4095, 63, 200)
	if got := len(both.store.List("p.")); got != 63+63 {
		t.Fatalf("%d runs", got)
	}
	both.add(t, costing(250, "x"))
	isStats(t, both.x, 4096, 65, 250)
	isNames(t, both.store, "p.4161")
	both.add(t, costing(250, "x"))
	isNames(t, both.store, "p.4161 p.4162")
	both.finish(t)
}

// 12.3

func TestFinishByHand(t *testing.T) {
	for _, row := range []struct {
		fan, runs int
		want      string
		merges    int // that Finish does
	}{
		{2, 0, "", 0}, {2, 1, "p.1", 0}, {2, 2, "p.3", 0}, {2, 3, "p.5", 1}, {2, 7, "p.13", 2}, {2, 15, "p.29", 3}, {2, 16, "p.31", 0},
		{3, 1, "p.1", 0}, {3, 2, "p.1 p.2", 0}, {3, 5, "p.4 p.7", 1}, {3, 8, "p.11 p.4", 1}, {3, 9, "p.13", 0}, {3, 26, "p.13 p.38", 2},
		{4, 3, "p.1 p.2 p.3", 0}, {4, 7, "p.5 p.6 p.9", 1}, {4, 6, "p.5 p.6 p.7", 0}, {4, 11, "p.10 p.14 p.5", 1},
	} {
		both := makesBoth(t, examples().withFan(row.fan))
		both.add(t, runOfOne(row.runs+1)...)
		before := both.x.Stats()
		f := finishes(t, both.x)
		isNames(t, both.store, row.want)
		isStats(t, both.x, before.Runs, before.Merges+row.merges, before.Peak)
		both.plain.finish()
		both.plain.isAt(t, both.x, both.store)
		both.plain.isWritten(t, both.store)
		isTold(t, f, plainSort(both.list))
		isClosed(t, f, api.OK)
	}
}

// All numbers of runs, and so of sources: as many as fan, one more, many more.
func TestFinishAll(t *testing.T) {
	t.Parallel()
	for _, row := range []struct{ fan, most, step int }{{2, 40, 1}, {3, 60, 1}, {4, 70, 3}, {7, 60, 1}, {64, 130, 1}, {64, 700, 61}} {
		l := runOfOne(row.most + 1)
		for runs := 0; runs <= row.most; runs += row.step {
			both := makesBoth(t, examples().withFan(row.fan))
			for _, r := range l[:runs+1] {
				adds(t, both.x, api.OK, r)
				both.plain.add(r)
			}
			both.list = l[:runs+1]
			both.finish(t)
		}
	}
}

// The buffer is no source, if it has no records. (No calls bring a sorter with runs there: behind each run comes a record.)
func TestFinishWithoutBuffer(t *testing.T) {
	for _, row := range []struct {
		fan, runs, merges int
		want              string
	}{{2, 3, 0, "p.3 p.4"}, {2, 7, 1, "p.12 p.7"}, {3, 5, 0, "p.4 p.5 p.6"}, {3, 8, 1, "p.11 p.4 p.8"}} {
		both := makesBoth(t, examples().withFan(row.fan))
		both.add(t, runOfOne(row.runs+1)...)
		both.x.buffer.Take()
		both.plain.buffer = nil
		before := both.x.Stats()
		f := finishes(t, both.x)
		isNames(t, both.store, row.want)
		isStats(t, both.x, before.Runs, before.Merges+row.merges, before.Peak)
		isTold(t, f, plainSort(both.list[:row.runs]))
		isClosed(t, f, api.OK)
	}
}

// The buffer is not laid down.
func TestBufferStays(t *testing.T) {
	both := makesBoth(t, examples())
	both.add(t, letters(14)...)
	f := finishes(t, both.x)
	isNames(t, both.store, "p.1")
	isStats(t, both.x, 1, 0, 238)
	if got := bytesOf(t, both.store, "p.1"); string(got) != string(both.plain.plainBytes(t, plainSort(both.list[:7]))) {
		t.Errorf("the run has other records than those of the first seven Adds")
	}
	isTold(t, f, plainSort(both.list))
}

// 12.6

func TestStats(t *testing.T) {
	var none *Sorter
	if none.Stats() != (api.SortStats{}) {
		t.Errorf("Stats of a nil sorter: %v", none.Stats())
	}
	x := makes(t, store.New(), examples())
	for _, row := range []struct {
		r                  api.Record
		runs, merges, peak int
	}{
		{costing(100, "a"), 0, 0, 100},
		{costing(50, "a"), 0, 0, 150},
		{costing(106, "a"), 0, 0, 256},
		{costing(32, ""), 1, 0, 256},
		{costing(200, "a"), 1, 0, 256},
		{costing(300, "a"), 2, 1, 300},
		{costing(260, "a"), 3, 1, 300},
		{costing(2080, strings.Repeat("k", 1024)), 4, 3, 2080},
		{costing(32, ""), 5, 3, 2080},
	} {
		adds(t, x, api.OK, row.r)
		isStats(t, x, row.runs, row.merges, row.peak)
		isStats(t, x, row.runs, row.merges, row.peak)
	}
	finishes(t, x)
	isStats(t, x, 5, 4, 2080)
	adds(t, x, api.ErrOver, rec(0, "", ""))
	isStats(t, x, 5, 4, 2080)
}
