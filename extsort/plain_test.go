package extsort

import (
	"bytes"
	"math/rand"
	"slices"
	"strconv"
	"strings"
	"testing"

	"winnow/api"
	"winnow/spill"
	"winnow/store"
)

// The calls have these signatures, to the letter.
var (
	_ func(s *store.Store, prefix string, parts, budget, fan int, shape api.Shape) (*Sorter, api.Errno) = New
	_ func(*Sorter, api.Record) api.Errno                                                               = (*Sorter).Add
	_ func(*Sorter) (*Stream, api.Errno)                                                                = (*Sorter).Finish
	_ func(*Sorter) api.SortStats                                                                       = (*Sorter).Stats
	_ func(*Stream) (api.Record, bool, api.Errno)                                                       = (*Stream).Next
	_ func(*Stream) api.Errno                                                                           = (*Stream).Close
)

func rec(part int, key, value string) api.Record {
	return api.Record{Part: part, Key: key, Value: value}
}

// costing tells a record of partition 0 that costs so much.
func costing(cost int, key string) api.Record {
	return rec(0, key, strings.Repeat("v", cost-32-len(key)))
}

func shape(block, restart, bits int) api.Shape {
	return api.Shape{Block: block, Restart: restart, Bits: bits}
}

// measures are what New is handed beside the store.
type measures struct {
	prefix             string
	parts, budget, fan int
	shape              api.Shape
}

// examples are the measures of the chapter's examples.
func examples() measures {
	return measures{"p", 1, 256, 2, shape(64, 4, 4)}
}

func (m measures) withFan(fan int) measures {
	m.fan = fan
	return m
}

func plainCost(r api.Record) int {
	return 32 + len(r.Key) + len(r.Value)
}

// plainSort goes by the words of 12.4: by partition and key, alike ones in the order of the list.
func plainSort(l []api.Record) []api.Record {
	l = slices.Clone(l)
	slices.SortStableFunc(l, func(a, b api.Record) int {
		if a.Part != b.Part {
			return a.Part - b.Part
		}
		return strings.Compare(a.Key, b.Key)
	})
	return l
}

// plainRun is a run without a blob.
type plainRun struct {
	name  string
	level int
	list  []api.Record
}

// plainSorter goes by the chapter's words, with lists for blobs.
type plainSorter struct {
	measures
	buffer []api.Record
	row    []plainRun
	begun  int
	stats  api.SortStats
	stop   int // the run of that number is refused
	broken bool
}

// lay tells a run, if it is not the one that breaks the sorter.
func (p *plainSorter) lay(list []api.Record, level int) (plainRun, bool) {
	p.begun++
	p.broken = p.begun == p.stop
	return plainRun{p.prefix + "." + strconv.Itoa(p.begun), level, list}, !p.broken
}

func (p *plainSorter) used() int {
	cost := 0
	for _, r := range p.buffer {
		cost += plainCost(r)
	}
	return cost
}

func (p *plainSorter) add(r api.Record) {
	if len(p.buffer) > 0 && p.used()+plainCost(r) > p.budget {
		run, ok := p.lay(plainSort(p.buffer), 0)
		if !ok {
			return
		}
		p.row = append(p.row, run)
		p.buffer = nil
		p.stats.Runs++
		for p.full() && !p.broken {
			p.merge(p.fan)
		}
	}
	if p.broken {
		return
	}
	p.buffer = append(p.buffer, r)
	p.stats.Peak = max(p.stats.Peak, p.used())
}

// full tells whether the last fan runs are of one level.
func (p *plainSorter) full() bool {
	alike := 0
	for i := len(p.row) - 1; i >= 0 && p.row[i].level == p.row[len(p.row)-1].level; i-- {
		alike++
	}
	return alike >= p.fan
}

func (p *plainSorter) merge(k int) {
	from := len(p.row) - k
	var all []api.Record
	for _, run := range p.row[from:] {
		all = append(all, run.list...)
	}
	run, ok := p.lay(plainSort(all), p.row[from].level+1)
	if !ok {
		return
	}
	p.row = append(slices.Clone(p.row[:from]), run)
	p.stats.Merges++
}

func (p *plainSorter) sources() int {
	if len(p.buffer) > 0 {
		return len(p.row) + 1
	}
	return len(p.row)
}

func (p *plainSorter) finish() {
	for p.sources() > p.fan && !p.broken {
		p.merge(min(p.fan, p.sources()-(p.fan-1)))
	}
}

// plainBytes tells the bytes of a run.
func (m measures) plainBytes(t *testing.T, list []api.Record) []byte {
	t.Helper()
	s := store.New()
	sh := m.shape
	sh.Bits = 0
	w, e := spill.Create(s, "x", m.parts, sh)
	for _, r := range list {
		if e == api.OK {
			e = w.Add(r)
		}
	}
	if e == api.OK {
		_, _, e = w.Close()
	}
	if e != api.OK {
		t.Fatalf("a plain run: %d", e)
	}
	s.Publish("x")
	return bytesOf(t, s, "x")
}

func bytesOf(t *testing.T, s *store.Store, name string) []byte {
	t.Helper()
	b, e := s.Read(name, 0, api.MaxBlob)
	if e != api.OK {
		t.Fatalf("%s: %d", name, e)
	}
	return b
}

func makes(t *testing.T, s *store.Store, m measures) *Sorter {
	t.Helper()
	x, e := New(s, m.prefix, m.parts, m.budget, m.fan, m.shape)
	if x == nil || e != api.OK {
		t.Fatalf("New of %v: %v, %d", m, x, e)
	}
	return x
}

func adds(t *testing.T, x *Sorter, want api.Errno, l ...api.Record) {
	t.Helper()
	for i, r := range l {
		if e := x.Add(r); e != want {
			t.Fatalf("Add of number %d: %d, and not %d", i, e, want)
		}
	}
}

func finishes(t *testing.T, x *Sorter) *Stream {
	t.Helper()
	f, e := x.Finish()
	if f == nil || e != api.OK {
		t.Fatalf("Finish: %v, %d", f, e)
	}
	return f
}

// refusesFinish asks for no stream, and an error.
func refusesFinish(t *testing.T, x *Sorter, want api.Errno) {
	t.Helper()
	if f, e := x.Finish(); f != nil || e != want {
		t.Fatalf("Finish: %v, %d, and not %d", f, e, want)
	}
}

// told goes through a stream, to its end and thrice behind it.
func told(t *testing.T, f *Stream) ([]api.Record, api.Errno) {
	t.Helper()
	var list []api.Record
	for {
		r, some, e := f.Next()
		if some && e == api.OK {
			list = append(list, r)
			continue
		}
		for range 3 {
			again, more, same := f.Next()
			if r != (api.Record{}) || some || again != r || more || same != e {
				t.Fatalf("behind %d records: %v, %v, %d, and then %v, %v, %d", len(list), r, some, e, again, more, same)
			}
		}
		return list, e
	}
}

func isTold(t *testing.T, f *Stream, want []api.Record) {
	t.Helper()
	list, e := told(t, f)
	if e != api.OK {
		t.Fatalf("behind %d of %d records: %d", len(list), len(want), e)
	}
	isSame(t, "a stream", list, want)
}

func isSame(t *testing.T, what string, got, want []api.Record) {
	t.Helper()
	if slices.Equal(got, want) {
		return
	}
	i := 0
	for i < min(len(got), len(want)) && got[i] == want[i] {
		i++
	}
	t.Fatalf("%s: %d records, want %d: from number %d on %s, want %s", what, len(got), len(want), i, written(got[i:]), written(want[i:]))
}

// written tells the first ones of a list.
func written(l []api.Record) string {
	var s strings.Builder
	for _, r := range l[:min(len(l), 5)] {
		s.WriteString(" (" + strconv.Itoa(r.Part) + " " + strconv.Quote(r.Key) + " " + strconv.Quote(r.Value) + ")")
	}
	return s.String()
}

func isClosed(t *testing.T, f *Stream, want api.Errno) {
	t.Helper()
	if e := f.Close(); e != want {
		t.Fatalf("Close: %d, and not %d", e, want)
	}
}

func isStats(t *testing.T, x *Sorter, runs, merges, peak int) {
	t.Helper()
	if got, want := x.Stats(), (api.SortStats{Runs: runs, Merges: merges, Peak: peak}); got != want {
		t.Fatalf("Stats: %v, and not %v", got, want)
	}
}

// namesIn tells the names of a store's blobs, one behind the other; those that are open have a sign.
func namesIn(s *store.Store) string {
	var l []string
	for _, b := range s.List("") {
		name := b.Name
		if b.State == api.BlobOpen {
			name += "?"
		}
		l = append(l, name)
	}
	return strings.Join(l, " ")
}

func isNames(t *testing.T, s *store.Store, want string) {
	t.Helper()
	if got := namesIn(s); got != want {
		t.Fatalf("blobs: %q, and not %q", got, want)
	}
}

func (p *plainSorter) names(others ...string) string {
	l := slices.Clone(others)
	for _, run := range p.row {
		l = append(l, run.name)
	}
	slices.Sort(l)
	return strings.Join(l, " ")
}

// isAt holds a sorter and its store against the plain one.
func (p *plainSorter) isAt(t *testing.T, x *Sorter, s *store.Store) {
	t.Helper()
	isStats(t, x, p.stats.Runs, p.stats.Merges, p.stats.Peak)
	isNames(t, s, p.names())
}

// isWritten holds the bytes of all runs against the plain ones.
func (p *plainSorter) isWritten(t *testing.T, s *store.Store) {
	t.Helper()
	for _, run := range p.row {
		if got, want := bytesOf(t, s, run.name), p.plainBytes(t, run.list); !bytes.Equal(got, want) {
			t.Fatalf("the run %s of %d records has %d bytes that are not its %d", run.name, len(run.list), len(got), len(want))
		}
	}
}

// both are a sorter over a store of its own, and the plain one.
type both struct {
	store *store.Store
	x     *Sorter
	plain *plainSorter
	list  []api.Record
}

func makesBoth(t *testing.T, m measures) *both {
	t.Helper()
	s := store.New()
	return &both{store: s, x: makes(t, s, m), plain: &plainSorter{measures: m}}
}

// add adds records to both, and holds them against each other behind each.
func (b *both) add(t *testing.T, l ...api.Record) {
	t.Helper()
	for _, r := range l {
		adds(t, b.x, api.OK, r)
		b.plain.add(r)
		b.list = append(b.list, r)
		b.plain.isAt(t, b.x, b.store)
	}
}

// finish finishes both, and holds them, and what is told, against each other.
func (b *both) finish(t *testing.T) {
	t.Helper()
	f := finishes(t, b.x)
	b.plain.finish()
	b.plain.isAt(t, b.x, b.store)
	b.plain.isWritten(t, b.store)
	isTold(t, f, plainSort(b.list))
	b.plain.isAt(t, b.x, b.store)
	isClosed(t, f, api.OK)
	isNames(t, b.store, "")
	isStats(t, b.x, b.plain.stats.Runs, b.plain.stats.Merges, b.plain.stats.Peak)
}

// randomKey tells a key out of few letters, so that many are alike; some are long.
func randomKey(random *rand.Rand) string {
	n := random.Intn(4)
	switch random.Intn(40) {
	case 0:
		n = random.Intn(1025)
	case 1:
		n = 60 + random.Intn(10)
	}
	k := make([]byte, n)
	for i := range k {
		k[i] = "\x00ab\xff"[random.Intn(4)]
	}
	return string(k)
}

// randomRecords tells records of which each has its place in its value, so that alike ones can be told from each other.
func randomRecords(random *rand.Rand, parts, count int) []api.Record {
	var l []api.Record
	for i := range count {
		value := strconv.Itoa(i)
		if random.Intn(40) == 0 {
			value += strings.Repeat("v", random.Intn(1000))
		}
		l = append(l, rec(random.Intn(parts), randomKey(random), value))
	}
	return l
}

// randomMeasures tells measures of small budgets, mostly.
func randomMeasures(random *rand.Rand) measures {
	return measures{
		prefix: []string{"p", "wc.m0.1", "", "-", "a.b"}[random.Intn(5)],
		parts:  []int{1, 2, 3, 300, 65535}[random.Intn(5)],
		budget: 256 + random.Intn(1+random.Intn(3000)),
		fan:    []int{2, 2, 3, 4, 5, 64}[random.Intn(6)],
		shape:  shape(64+random.Intn(1+random.Intn(500)), 1+random.Intn(64), random.Intn(17)),
	}
}

// runOfOne tells records of which each but the last comes to be a run of its own in a budget of 256.
func runOfOne(count int) []api.Record {
	var l []api.Record
	for i := range count {
		l = append(l, costing(200, string(rune('a'+(i*7)%5))+strconv.Itoa(i%3)))
		l[i].Value = strconv.Itoa(i) + l[i].Value[len(strconv.Itoa(i)):]
	}
	return l
}
