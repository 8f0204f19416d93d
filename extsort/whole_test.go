package extsort

import (
	"bytes"
	"math/rand"
	"slices"
	"strconv"
	"strings"
	"testing"

	"winnow/api"
	"winnow/store"
)

// 12.8

// Whatever the measures and the records are: behind each Add, behind Finish, and to the end the sorter is as the document says.
func TestAnySort(t *testing.T) {
	t.Parallel()
	random := rand.New(rand.NewSource(128))
	for round := range 150 {
		m := randomMeasures(random)
		both := makesBoth(t, m)
		both.add(t, randomRecords(random, m.parts, random.Intn(400))...)
		if round%5 == 0 {
			both.plain.isWritten(t, both.store)
		}
		both.finish(t)
		most := m.budget
		for _, r := range both.list {
			most = max(most, plainCost(r))
		}
		if peak := both.x.Stats().Peak; peak > most {
			t.Fatalf("Peak %d of a budget of %d", peak, m.budget)
		}
	}
}

// One list, by any measures: the same is told.
func TestMeasuresDoNotMatter(t *testing.T) {
	t.Parallel()
	random := rand.New(rand.NewSource(1281))
	list := randomRecords(random, 3, 1000)
	want := plainSort(list)
	for _, budget := range []int{256, 1000, 10000, 1 << 24} {
		for i, fan := range []int{2, 3, 64} {
			for k, sh := range []api.Shape{shape(64, 1, 0), shape(64, 64, 16), shape(65536, 16, 0), shape(1000, 3, 9)} {
				prefix := []string{"p", "", "a-very-long-prefix.with.full.stops"}[(i+k)%3]
				s := store.New()
				x := makes(t, s, measures{prefix, 3, budget, fan, sh})
				adds(t, x, api.OK, list...)
				f := finishes(t, x)
				isTold(t, f, want)
				isClosed(t, f, api.OK)
				isNames(t, s, "")
			}
		}
	}
}

// Lists that are sorted already, fall, or are all alike; records in the first and the last of many partitions.
func TestSpecialLists(t *testing.T) {
	t.Parallel()
	random := rand.New(rand.NewSource(1282))
	sorted := plainSort(randomRecords(random, 65535, 700))
	falling := slices.Clone(sorted)
	slices.Reverse(falling)
	alike := slices.Repeat([]api.Record{rec(65534, "k", "v")}, 500)
	var ends []api.Record
	for i := range 500 {
		ends = append(ends, rec(65534*(i%2), strconv.Itoa(i%7), strconv.Itoa(i)))
	}
	var spread []api.Record
	for i := range 3000 {
		spread = append(spread, rec(i*7919%65535, "", strconv.Itoa(i)))
	}
	long := []api.Record{}
	for i := range 40 {
		long = append(long, rec(i%2, strings.Repeat("k", 1024-i%3), strings.Repeat("v", 1024)))
	}
	for _, list := range [][]api.Record{sorted, falling, alike, ends, spread, long} {
		for _, fan := range []int{2, 3, 64} {
			both := makesBoth(t, measures{"p", 65535, 256, fan, shape(64, 16, 3)})
			for _, r := range list {
				adds(t, both.x, api.OK, r)
				both.plain.add(r)
			}
			both.list = list
			both.finish(t)
		}
	}
}

// Keys that are told apart by their last byte, or by one more; the least and the greatest bytes.
func TestOrderOfKeys(t *testing.T) {
	keys := []string{"", "\x00", "\x00\x00", "a", "a\x00", "a\x7f", "a\x80", "a\xff", "aa", "ab", "b", "\x7f", "\x80", "\xc3\xa9", "\xff", "\xff\x00", "\xff\xff",
		strings.Repeat("k", 1023), strings.Repeat("k", 1024), strings.Repeat("k", 1023) + "\xff", strings.Repeat("k", 64), strings.Repeat("k", 65)}
	both := makesBoth(t, measures{"p", 2, 256, 2, shape(64, 2, 0)})
	random := rand.New(rand.NewSource(1283))
	for i := range 20 * len(keys) {
		both.add(t, rec(random.Intn(2), keys[random.Intn(len(keys))], strconv.Itoa(i)))
	}
	both.finish(t)
}

// 12.9

// writes looks at a sorter's runs when one is begun, and behind each Add: no run is missed, as a run is only deleted when a further one was begun.
type writes struct {
	t     *testing.T
	store *store.Store
	m     measures
	seen  map[string]bool
	times map[string]int // how often a record was written, by its value
	most  int            // runs that there were at one time
}

func watched(t *testing.T, x *Sorter, s *store.Store, m measures) *writes {
	w := &writes{t, s, m, map[string]bool{}, map[string]int{}, 0}
	inner := x.nextName
	x.nextName = func() string {
		w.look()
		return inner()
	}
	return w
}

func (w *writes) look() {
	list := w.store.List("")
	w.most = max(w.most, len(list))
	for _, b := range list {
		if w.seen[b.Name] {
			continue
		}
		w.seen[b.Name] = true
		source := readRun(w.store, b.Name, int64(b.Size), w.m.parts)
		if source.end != api.OK {
			w.t.Fatalf("%s: %d", b.Name, source.end)
		}
		for _, r := range source.list {
			w.times[r.Value]++
		}
	}
}

// digits tells how many digits a number has with that base; of 0 it has one.
func digits(n, base int) int {
	count := 1
	for n >= base {
		n /= base
		count++
	}
	return count
}

func TestFewRuns(t *testing.T) {
	for _, row := range []struct{ fan, count int }{{2, 300}, {3, 300}, {4, 300}, {7, 400}, {64, 300}} {
		s := store.New()
		m := examples().withFan(row.fan)
		x := makes(t, s, m)
		w := watched(t, x, s, m)
		merged := false
		for i, r := range runOfOne(row.count) {
			r.Value = strconv.Itoa(i) + strings.Repeat("v", 150)
			adds(t, x, api.OK, r)
			w.look()
			levels := digits(x.Stats().Runs, row.fan)
			if most := (row.fan-1)*levels + 1; w.most > most {
				t.Fatalf("fan %d: %d runs of %d, %d at most", row.fan, w.most, x.Stats().Runs, most)
			}
			for value, times := range w.times {
				if times > levels {
					t.Fatalf("fan %d, %d runs: %s is written %d times, %d at most", row.fan, x.Stats().Runs, value[:3], times, levels)
				}
				merged = merged || times > 1
			}
		}
		if got := len(w.seen); got != x.Stats().Runs+x.Stats().Merges || !merged {
			t.Fatalf("%d runs are seen, Stats: %v", got, x.Stats())
		}
		levels := digits(x.Stats().Runs, row.fan)
		finishes(t, x)
		w.look()
		if most := (row.fan-1)*levels + 1; w.most > most {
			t.Fatalf("fan %d: %d runs in Finish, %d at most", row.fan, w.most, most)
		}
	}
}

// 12.10

func TestNothingIsLeft(t *testing.T) {
	random := rand.New(rand.NewSource(1210))
	s := store.New()
	for _, name := range []string{"p", "pp.1", "q.1", "p-.1"} {
		s.Create(name)
	}
	before := s.List("")
	for range 40 {
		m := randomMeasures(random)
		m.prefix = "p"
		x := makes(t, s, m)
		list := randomRecords(random, m.parts, random.Intn(200))
		adds(t, x, api.OK, list...)
		f := finishes(t, x)
		for range random.Intn(2 * (1 + len(list))) {
			f.Next()
		}
		isClosed(t, f, api.OK)
		if got := s.List(""); !slices.Equal(got, before) {
			t.Fatalf("left: %v", got)
		}
	}
}

// 12.11

// filesOf tells the names and bytes of all runs.
func filesOf(t *testing.T, s *store.Store, prefix string) string {
	t.Helper()
	var out bytes.Buffer
	for _, b := range s.List(prefix + ".") {
		out.WriteString(strings.TrimPrefix(b.Name, prefix) + ":")
		out.Write(bytesOf(t, s, b.Name))
	}
	return out.String()
}

// Stats and bytes hang on the records and the measures alone: not on what else the store has, not on the prefix, nor on what was refused.
func TestRunsAreAlike(t *testing.T) {
	t.Parallel()
	random := rand.New(rand.NewSource(1211))
	for range 15 {
		m := randomMeasures(random)
		m.prefix = "p"
		list := randomRecords(random, m.parts, 250)
		one, other := store.New(), store.New()
		x := makes(t, one, m)
		m.prefix = "q.r"
		y := makes(t, other, m)
		busy := makes(t, other, examples())
		for i, r := range list {
			adds(t, x, api.OK, r)
			adds(t, busy, api.OK, costing(200, strconv.Itoa(i)))
			adds(t, y, api.ErrArg, rec(-1, "", ""))
			adds(t, y, api.OK, r)
			if x.Stats() != y.Stats() {
				t.Fatalf("%v and %v", x.Stats(), y.Stats())
			}
		}
		if filesOf(t, one, "p") != filesOf(t, other, "q.r") {
			t.Fatalf("other runs of the same records")
		}
		f, g := finishes(t, x), finishes(t, y)
		if x.Stats() != y.Stats() || filesOf(t, one, "p") != filesOf(t, other, "q.r") {
			t.Fatalf("other runs of the same records behind Finish")
		}
		isTold(t, f, plainSort(list))
		isTold(t, g, plainSort(list))
	}
}

// The bits of a shape are no matter: runs have no filters.
func TestBitsDoNotMatter(t *testing.T) {
	list := randomRecords(rand.New(rand.NewSource(1212)), 3, 300)
	files := ""
	for bits := range 17 {
		s := store.New()
		x := makes(t, s, measures{"p", 3, 400, 3, shape(100, 4, bits)})
		adds(t, x, api.OK, list...)
		got := filesOf(t, s, "p")
		if bits > 0 && got != files {
			t.Fatalf("other bytes with %d bits", bits)
		}
		files = got
	}
}

// Sorters over one store, at one time, each with a prefix of its own.
func TestSeveralAtOneTime(t *testing.T) {
	s := store.New()
	done := make(chan string)
	for i := range 8 {
		go func() {
			m := examples().withFan(2 + i%3)
			x, _ := New(s, "w"+strconv.Itoa(i), m.parts, m.budget, m.fan, m.shape)
			l := letters(300)
			for _, r := range l {
				if e := x.Add(r); e != api.OK {
					done <- "Add: " + strconv.Itoa(int(e))
					return
				}
			}
			f, e := x.Finish()
			var got []api.Record
			for r, some, _ := f.Next(); some; r, some, _ = f.Next() {
				got = append(got, r)
			}
			if !slices.Equal(got, plainSort(l)) || e != api.OK || f.Close() != api.OK {
				done <- "other records"
				return
			}
			done <- ""
		}()
	}
	for range 8 {
		if what := <-done; what != "" {
			t.Error(what)
		}
	}
	isNames(t, s, "")
}
