package spill

import (
	"bytes"
	"math"
	"math/rand"
	"slices"
	"strings"
	"testing"

	"winnow/api"
	"winnow/filter"
	"winnow/foot"
	"winnow/store"
)

func TestExamples(t *testing.T) {
	s := store.New()
	w := creates(t, s, 3, shape(64, 2, 0))
	for i, row := range []struct {
		record api.Record
		want   api.Errno
	}{
		{rec(0, "a", "1"), api.OK}, {rec(0, "a", "2"), api.OK}, {rec(2, "b", ""), api.OK},
		{rec(1, "c", ""), api.ErrOrder}, {rec(2, "a", ""), api.ErrOrder}, {rec(3, "z", ""), api.ErrArg}, {rec(2, long(1025), ""), api.ErrTooLarge},
	} {
		if e := w.Add(row.record); e != row.want {
			t.Errorf("example 1: Add %d: %d, want %d", i, e, row.want)
		}
	}
	n := closes(t, w, 3)
	if a, b, e := w.Close(); a != 0 || b != 0 || e != api.ErrOver {
		t.Errorf("example 1: Close again: %d, %d, %d", a, b, e)
	}
	if e := w.Add(rec(2, "z", "")); e != api.ErrOver {
		t.Errorf("example 1: Add behind Close: %d", e)
	}
	if r, e := Open(s, "x", n); r != nil || e != api.ErrOpen {
		t.Errorf("example 3: not published: %v, %d", r, e)
	}
	s.Publish("x")
	b := bytesOf(t, s, "x")
	f, _ := plainOpen(b, n)
	reads(t, "example 2", s, opens(t, s, n), b, f, []string{"", "a", "b", "c"})
	if got := plainSeek(b, f, 0, "a").pairs; !slices.Equal(got, []api.Pair{{Key: "a", Value: "1"}, {Key: "a", Value: "2"}}) {
		t.Errorf("example 2: %q", got)
	}
	for _, m := range []int64{n - 1, n + 1} {
		if r, e := Open(s, "x", m); r != nil || e != api.ErrLength {
			t.Errorf("example 3: a length of %d: %v, %d", m, r, e)
		}
	}
	if w, e := Create(s, "x", 3, shape(64, 2, 0)); w != nil || e != api.ErrExists {
		t.Errorf("example 5: once more: %v, %d", w, e)
	}
}

// 9.1

func TestCreate(t *testing.T) {
	for _, parts := range []int{1, 2, 65534, 65535} {
		for _, sh := range []api.Shape{
			shape(64, 1, 0), shape(65, 2, 1), shape(65535, 63, 15), shape(65536, 64, 16), shape(64, 64, 16), shape(65536, 1, 0),
		} {
			s := store.New()
			creates(t, s, parts, sh)
			if l := s.List(""); len(l) != 1 || l[0] != (api.BlobInfo{Name: "x", State: api.BlobOpen}) {
				t.Errorf("Create of %d partitions, %v leaves %v", parts, sh, l)
			}
		}
	}
}

func TestCreateRefuses(t *testing.T) {
	good := shape(64, 1, 0)
	var bad []api.Shape
	for _, n := range []int{math.MinInt, -64, 0, 1, 63, 65537, 1<<32 + 64, math.MaxInt} {
		bad = append(bad, shape(n, 1, 0))
	}
	for _, n := range []int{math.MinInt, -1, 0, 65, 1<<32 + 1, math.MaxInt} {
		bad = append(bad, shape(64, n, 0))
	}
	for _, n := range []int{math.MinInt, -1, 17, 1 << 32, math.MaxInt} {
		bad = append(bad, shape(64, 1, n))
	}
	s := store.New()
	put(t, s, "there", nil)
	refuses := func(s *store.Store, name string, parts int, sh api.Shape, want api.Errno) {
		t.Helper()
		if w, e := Create(s, name, parts, sh); w != nil || e != want {
			t.Errorf("Create of %q, %d, %v: %v, %d, want %d", name, parts, sh, w, e, want)
		}
	}
	for _, name := range []string{"x", "there", "", "X", long(41)} {
		refuses(nil, name, 1, good, api.ErrNil)
		refuses(nil, name, 0, good, api.ErrNil)
		for _, parts := range []int{math.MinInt, -1, 0, 65536, 65537, 1<<32 + 1, math.MaxInt} {
			refuses(s, name, parts, good, api.ErrArg)
		}
		for _, sh := range bad {
			refuses(nil, name, 1, sh, api.ErrNil)
			refuses(s, name, 1, sh, api.ErrArg)
			refuses(s, name, 0, sh, api.ErrArg)
		}
	}
	refuses(s, "", 1, good, api.ErrName)
	refuses(s, "X", 1, good, api.ErrName)
	refuses(s, long(41), 1, good, api.ErrName)
	refuses(s, "there", 1, good, api.ErrExists)
	if l := s.List(""); len(l) != 1 {
		t.Errorf("a Create that is refused leaves %v", l)
	}
	creates(t, s, 1, good)
	refuses(s, "x", 1, good, api.ErrExists)
}

// 9.2

func TestNilWriter(t *testing.T) {
	var w *Writer
	for _, r := range []api.Record{{}, rec(-1, long(1025), ""), rec(0, "a", "b")} {
		if e := w.Add(r); e != api.ErrNil {
			t.Errorf("Add to nil: %d", e)
		}
	}
	if n, k, e := w.Close(); n != 0 || k != 0 || e != api.ErrNil {
		t.Errorf("Close of nil: %d, %d, %d", n, k, e)
	}
}

// refusals are records that a writer of 3 partitions refuses behind {1, "m", ..}.
var refusals = []struct {
	record api.Record
	want   api.Errno
}{
	{rec(1, strings.Repeat("n", 1025), ""), api.ErrTooLarge}, {rec(1, "n", strings.Repeat("n", 1025)), api.ErrTooLarge}, {rec(2, long(1<<17), long(1<<17)), api.ErrTooLarge},
	{rec(-1, strings.Repeat("n", 1025), ""), api.ErrTooLarge}, {rec(3, "n", strings.Repeat("n", 1025)), api.ErrTooLarge}, {rec(1, strings.Repeat("a", 1025), ""), api.ErrTooLarge}, {rec(0, "n", strings.Repeat("n", 1025)), api.ErrTooLarge},
	{rec(-1, "n", ""), api.ErrArg}, {rec(3, "n", ""), api.ErrArg}, {rec(4, "", ""), api.ErrArg}, {rec(math.MinInt, "n", ""), api.ErrArg}, {rec(math.MaxInt, "n", ""), api.ErrArg}, {rec(-1, "a", ""), api.ErrArg}, {rec(3, "a", ""), api.ErrArg}, {rec(1<<32+1, "n", ""), api.ErrArg},
	{rec(0, "n", ""), api.ErrOrder}, {rec(0, "m", ""), api.ErrOrder}, {rec(0, "", ""), api.ErrOrder}, {rec(1, "l", ""), api.ErrOrder}, {rec(1, "", ""), api.ErrOrder}, {rec(1, "l\xff", "v"), api.ErrOrder}, {rec(0, long(1024), long(1024)), api.ErrOrder}, {rec(1, strings.Repeat("l", 1024), ""), api.ErrOrder},
}

func TestAddRefuses(t *testing.T) {
	records := []api.Record{rec(1, "a", ""), rec(1, "m", "1"), rec(1, "m", "2"), rec(1, "m\x00", ""), rec(2, "", ""), rec(2, "", "w")}
	s := store.New()
	w := creates(t, s, 3, shape(64, 2, 8))
	adds(t, w, records[:2]...)
	for i, row := range refusals {
		if e := w.Add(row.record); e != row.want {
			t.Errorf("record %d: %d, want %d", i, e, row.want)
		}
	}
	// Nothing has changed by them: what follows, the file and its numbers are as without.
	adds(t, w, records[2:]...)
	n := closes(t, w, len(records))
	s.Publish("x")
	if want := plainSpill(t, 3, shape(64, 2, 8), records); !bytes.Equal(bytesOf(t, s, "x"), want) || n != int64(len(want)) {
		t.Errorf("records that are refused change the file")
	}
}

// A refused record is no last one: neither its partition nor its key is held against the next.
func TestRefusedIsNotLast(t *testing.T) {
	w := creates(t, store.New(), 3, shape(64, 1, 0))
	for i, row := range []struct {
		record api.Record
		want   api.Errno
	}{
		{rec(2, long(1025), ""), api.ErrTooLarge}, {rec(3, "z", ""), api.ErrArg}, {rec(0, "b", ""), api.OK},
		{rec(2, "z", long(1025)), api.ErrTooLarge}, {rec(1, "b", ""), api.OK}, {rec(1, "z", long(1025)), api.ErrTooLarge}, {rec(1, "c", ""), api.OK}, {rec(1, "b", ""), api.ErrOrder},
		{rec(1, "c", ""), api.OK}, {rec(0, "d", ""), api.ErrOrder}, {rec(2, "a", ""), api.OK}, {rec(2, "", ""), api.ErrOrder}, {rec(1, "d", ""), api.ErrOrder}, {rec(2, "a", ""), api.OK},
	} {
		if e := w.Add(row.record); e != row.want {
			t.Errorf("record %d: %d, want %d", i, e, row.want)
		}
	}
}

func TestLengths(t *testing.T) {
	var records []api.Record
	for _, n := range []int{0, 1, 63, 64, 65, 127, 128, 1023, 1024} {
		for _, m := range []int{0, 1, 127, 128, 1023, 1024} {
			records = append(records, rec(0, long(n), strings.Repeat("v", m)))
		}
	}
	for _, sh := range []api.Shape{shape(64, 1, 0), shape(64, 16, 10), shape(4096, 3, 16), shape(65536, 64, 1)} {
		r, s := reopened(t, 1, sh, records...)
		b := bytesOf(t, s, "x")
		f, _ := plainOpen(b, int64(len(b)))
		reads(t, "all lengths", s, r, b, f, probes(keysOf(records)...))
	}
}

// written tells how many bytes stand behind each Add, by the words of 9.2: all blocks but the one that is gathered.
func written(t *testing.T, sh api.Shape, records []api.Record) []int {
	t.Helper()
	var out []int
	blocks := plainCut(t, sh, records)
	size := 0
	for _, b := range blocks {
		for range b.pairs {
			out = append(out, size)
		}
		size += len(b.tile)
	}
	return out
}

// steps holds the blob's size behind each Add against what is to be written by then.
func steps(t *testing.T, parts int, sh api.Shape, records []api.Record) {
	t.Helper()
	s := store.New()
	w := creates(t, s, parts, sh)
	for i, want := range written(t, sh, records) {
		adds(t, w, records[i])
		if got := sizeOf(s, "x"); got != want {
			t.Fatalf("%d bytes stand behind record %d, want %d", got, i, want)
		}
	}
	n := closes(t, w, len(records))
	if want := plainSpill(t, parts, sh, records); n != int64(len(want)) || sizeOf(s, "x") != len(want) {
		t.Fatalf("Close tells %d bytes, %d stand, want %d", n, sizeOf(s, "x"), len(want))
	}
	if l := s.List(""); len(l) != 1 || l[0].State != api.BlobOpen {
		t.Fatalf("Close leaves %v", l)
	}
}

func TestBlocksAreWritten(t *testing.T) {
	// By an interval of 1 an entry of a key of n bytes has 3 + n bytes and 4 of its restart; 8 bytes are at the end.
	fill := func(part int, sizes ...int) []api.Record {
		var out []api.Record
		for i, n := range sizes {
			out = append(out, rec(part, string(rune('a'+i)), strings.Repeat("v", n-8)))
		}
		return out
	}
	for _, row := range []struct {
		records []api.Record
		blocks  []int // how many records each block has
	}{
		{fill(0, 28, 28), []int{2}},            // 64 raw bytes: just full
		{fill(0, 28, 29), []int{1, 1}},         // 65: one too many
		{fill(0, 28, 28, 28), []int{2, 1}},     // and one more
		{fill(0, 28, 28, 28, 28), []int{2, 2}}, // and once more
		{fill(0, 56), []int{1}},                // alone, just full
		{fill(0, 57), []int{1}},                // alone, and more than a block
		{fill(0, 57, 8), []int{1, 1}},          // behind that one nothing has room
		{fill(0, 8, 57), []int{1, 1}},
		{fill(0, 48, 8), []int{2}},
		{fill(0, 49, 8), []int{1, 1}},
		{fill(0, 8, 8, 8, 8, 8, 8, 8), []int{7}},
		{fill(0, 8, 8, 8, 8, 8, 8, 8, 8), []int{7, 1}},
		{append(fill(0, 8), fill(1, 8)...), []int{1, 1}},                           // another partition, though there is room
		{append(fill(0, 28, 28), fill(1, 28, 28)...), []int{2, 2}},                 // another partition, and no room
		{append(append(fill(0, 8), fill(1, 8)...), fill(2, 8)...), []int{1, 1, 1}}, // each time
	} {
		steps(t, 3, shape(64, 1, 0), row.records)
		r, _ := reopened(t, 3, shape(64, 1, 0), row.records...)
		var got []int
		for _, info := range r.Foot().Infos {
			for _, b := range info.Blocks {
				got = append(got, b.Count)
			}
		}
		if !slices.Equal(got, row.blocks) {
			t.Errorf("blocks of %v records, want %v", got, row.blocks)
		}
	}
	random := rand.New(rand.NewSource(902))
	for range 300 {
		steps(t, 4, randomShape(random), randomRecords(random, 4, 30))
	}
}

// broken holds a writer that was broken by an error against 9.2 and 9.3.
func broken(t *testing.T, what string, w *Writer, want api.Errno) {
	t.Helper()
	for range 2 {
		for _, r := range []api.Record{rec(2, "zz", ""), rec(-1, long(1025), ""), rec(3, "", ""), rec(0, "", "")} {
			if e := w.Add(r); e != want {
				t.Errorf("%s: Add to a broken one: %d, want %d", what, e, want)
			}
		}
		if n, k, e := w.Close(); n != 0 || k != 0 || e != want {
			t.Errorf("%s: Close of a broken one: %d, %d, %d, want %d", what, n, k, e, want)
		}
	}
}

// What may be done to a blob under its writer, and what the next Append answers.
var blows = []struct {
	what string
	blow func(s *store.Store)
	want api.Errno
}{
	{"stopped", func(s *store.Store) { s.StopAt("x", 0) }, api.ErrStopped},
	{"gone", func(s *store.Store) { s.Delete("x") }, api.ErrNoBlob},
	{"published", func(s *store.Store) { s.Publish("x") }, api.ErrOut},
	{"full", func(s *store.Store) { s.Resize("x", api.MaxBlob-int64(sizeOf(s, "x"))) }, api.ErrBig},
}

func TestStoreBreaks(t *testing.T) {
	for _, row := range blows {
		s := store.New()
		w := creates(t, s, 3, shape(64, 1, 4))
		adds(t, w, rec(0, "a", ""), rec(0, "b", ""))
		row.blow(s)
		adds(t, w, rec(0, "c", "")) // it has room, so nothing is written
		if e := w.Add(rec(0, "c", long(50))); e != row.want {
			t.Errorf("%s: Add that writes: %d, want %d", row.what, e, row.want)
		}
		broken(t, row.what+", Add", w, row.want)

		s = store.New()
		w = creates(t, s, 3, shape(64, 1, 4))
		adds(t, w, rec(0, "a", ""))
		row.blow(s)
		if n, k, e := w.Close(); n != 0 || k != 0 || e != row.want {
			t.Errorf("%s: Close that writes a block: %d, %d, %d, want %d", row.what, n, k, e, row.want)
		}
		broken(t, row.what+", Close", w, row.want)

		s = store.New()
		w = creates(t, s, 3, shape(64, 1, 4))
		row.blow(s)
		if n, k, e := w.Close(); n != 0 || k != 0 || e != row.want {
			t.Errorf("%s: Close that writes a footer alone: %d, %d, %d, want %d", row.what, n, k, e, row.want)
		}
		broken(t, row.what+", Close without records", w, row.want)
	}
}

// What broke a writer is answered though the blob is as it was.
func TestBrokenForGood(t *testing.T) {
	s := store.New()
	w := creates(t, s, 3, shape(64, 1, 4))
	adds(t, w, rec(0, "a", ""))
	s.Delete("x")
	if e := w.Add(rec(1, "a", "")); e != api.ErrNoBlob {
		t.Fatalf("Add: %d", e)
	}
	s.Create("x")
	broken(t, "a new blob", w, api.ErrNoBlob)
	if n := sizeOf(s, "x"); n != 0 {
		t.Errorf("a broken writer has written %d bytes", n)
	}
}

// A refusal is told ahead of any writing.
func TestRefusedAheadOfWriting(t *testing.T) {
	s := store.New()
	w := creates(t, s, 3, shape(64, 1, 4))
	adds(t, w, rec(1, "m", long(60)))
	s.Delete("x")
	for i, row := range refusals {
		if e := w.Add(row.record); e != row.want {
			t.Errorf("record %d: %d, want %d", i, e, row.want)
		}
	}
	if e := w.Add(rec(1, "n", "")); e != api.ErrNoBlob {
		t.Errorf("a record that is none: %d", e)
	}
}

// 9.3

func TestClosed(t *testing.T) {
	for _, records := range [][]api.Record{nil, {rec(0, "a", "")}, {rec(0, "a", ""), rec(2, "b", "")}} {
		s := store.New()
		w := creates(t, s, 3, shape(64, 1, 4))
		adds(t, w, records...)
		n := closes(t, w, len(records))
		for range 2 {
			for _, r := range []api.Record{{}, rec(-1, long(1025), ""), rec(3, "", ""), rec(2, "zz", ""), rec(0, "", "")} {
				if e := w.Add(r); e != api.ErrOver {
					t.Errorf("Add behind Close: %d", e)
				}
			}
			if n, k, e := w.Close(); n != 0 || k != 0 || e != api.ErrOver {
				t.Errorf("Close behind Close: %d, %d, %d", n, k, e)
			}
		}
		if sizeOf(s, "x") != int(n) {
			t.Errorf("%d bytes stand behind Close, %d were told", sizeOf(s, "x"), n)
		}
		s.Delete("x")
		if e := w.Add(rec(2, "zz", "")); e != api.ErrOver {
			t.Errorf("Add behind Close of a blob that is gone: %d", e)
		}
	}
}

func TestNoRecords(t *testing.T) {
	for _, parts := range []int{1, 3, 65535} {
		for _, bits := range []int{0, 16} {
			r, s := reopened(t, parts, shape(64, 1, bits))
			b := bytesOf(t, s, "x")
			if r.Parts() != parts || len(r.Foot().Infos) != 0 {
				t.Errorf("no records: %d, %v", r.Parts(), r.Foot())
			}
			if parts == 1 && len(b) != 30 {
				t.Errorf("a spill without records has %d bytes", len(b))
			}
			reads(t, "no records", s, r, b, api.Foot{Parts: parts}, []string{"", "a"})
		}
	}
}

// The first and the last partition of the most that there may be.
func TestMostPartitions(t *testing.T) {
	records := []api.Record{rec(0, "a", "1"), rec(32767, "b", "2"), rec(65534, "c", "3")}
	r, s := reopened(t, 65535, shape(64, 1, 4), records...)
	b := bytesOf(t, s, "x")
	f, _ := plainOpen(b, int64(len(b)))
	reads(t, "65535 partitions", s, r, b, f, []string{"", "a", "b", "c", "d"})
	w := creates(t, store.New(), 65535, shape(64, 1, 4))
	if e := w.Add(rec(65535, "a", "")); e != api.ErrArg {
		t.Errorf("partition 65535 of 65535: %d", e)
	}
}

// Filters are of each partition's own keys, each counted once, and of Bits.
func TestFilters(t *testing.T) {
	var records []api.Record
	for part, keys := range [][]string{{"", "", "a"}, {"a", "a", "a", "b"}, {"a"}, {}, {"", "b", "c", "c", "d", "e", "f", "g", "h"}} {
		for _, k := range keys {
			records = append(records, rec(part, k, "v"))
		}
	}
	for bits := range 17 {
		for _, size := range []int{64, 4096} {
			r, _ := reopened(t, 5, shape(size, 2, bits), records...)
			f := r.Foot()
			if len(f.Infos) != 4 {
				t.Fatalf("%d partitions with records", len(f.Infos))
			}
			for i, keys := range [][]string{{"", "a"}, {"a", "b"}, {"a"}, {"", "b", "c", "d", "e", "f", "g", "h"}} {
				want, _ := filter.Build(keys, bits)
				got := f.Infos[i].Filter
				if got.All != want.All || got.Hashes != want.Hashes || !bytes.Equal(got.Data, want.Data) {
					t.Errorf("%d bits, partition %d: %v, want %v", bits, f.Infos[i].Part, got, want)
				}
			}
		}
	}
}

// Up to MaxKeys keys a filter has bits; from one more on it denies nothing; alike ones do not count.
func TestFilterOfManyKeys(t *testing.T) {
	for _, n := range []int{65536, 65537, 65600} {
		s := store.New()
		w := creates(t, s, 2, shape(65536, 64, 5))
		var keys []string
		for i := range n {
			key := string([]byte{byte(i >> 16), byte(i >> 8), byte(i)})
			keys = append(keys, key)
			adds(t, w, rec(0, key, ""))
			if i%1000 == 0 {
				adds(t, w, rec(0, key, "again"))
			}
		}
		adds(t, w, rec(1, "a", ""), rec(1, "b", ""))
		length, _, e := w.Close()
		s.Publish("x")
		f := opens(t, s, length).Foot()
		for i, keys := range [][]string{keys, {"a", "b"}} {
			want, _ := filter.Build(keys, 5)
			got := f.Infos[i].Filter
			if e != api.OK || got.All != want.All || got.Hashes != want.Hashes || !bytes.Equal(got.Data, want.Data) {
				t.Errorf("%d keys, partition %d: the filter is another one", n, i)
			}
		}
		if f.Infos[0].Filter.All != (n > 65536) {
			t.Errorf("%d keys: All is %v", n, f.Infos[0].Filter.All)
		}
	}
}

// Cuts are the first 64 bytes of a block's first key.
func TestCuts(t *testing.T) {
	for _, n := range []int{0, 1, 63, 64, 65, 128, 1024} {
		r, _ := reopened(t, 1, shape(64, 1, 0), rec(0, long(n), ""), rec(0, long(n)+"", long(60)))
		for _, b := range r.Foot().Infos[0].Blocks {
			if b.Cut != long(min(n, 64)) {
				t.Errorf("a key of %d bytes: a Cut of %d", n, len(b.Cut))
			}
		}
	}
}

// 9.9

// alone is a record that has a block of 64 bytes to itself.
func alone(i int, key string) api.Record {
	return rec(0, string([]byte{byte(i >> 16), byte(i >> 8), byte(i)})+key, strings.Repeat("v", 30))
}

func TestMaxBlocks(t *testing.T) {
	t.Parallel()
	full := func(t *testing.T) (*Writer, *store.Store) {
		s := store.New()
		w := creates(t, s, 2, shape(64, 1, 0))
		for i := range 1 << 18 {
			adds(t, w, alone(i, ""))
		}
		return w, s
	}
	t.Run("one more", func(t *testing.T) {
		t.Parallel()
		w, s := full(t)
		before := sizeOf(s, "x")
		for want, r := range map[api.Errno]api.Record{api.ErrTooLarge: rec(1, long(1025), ""), api.ErrArg: rec(2, "", ""), api.ErrOrder: rec(0, "", "")} {
			if e := w.Add(r); e != want {
				t.Errorf("a refusal behind 2^18 blocks: %d, want %d", e, want)
			}
		}
		if e := w.Add(rec(1, "", "")); e != api.ErrFull {
			t.Errorf("the block number 2^18 + 1: %d", e)
		}
		if n := sizeOf(s, "x"); n <= before {
			t.Errorf("the last block is not written: %d bytes, %d ahead of it", n, before)
		}
		broken(t, "full", w, api.ErrFull)
	})
	t.Run("as many as may be", func(t *testing.T) {
		t.Parallel()
		w, s := full(t)
		adds(t, w, rec(0, "\xff", "")) // it joins the last block
		n := closes(t, w, 1<<18+1)
		s.Publish("x")
		r := opens(t, s, n)
		if k, e := r.Count(0); k != 1<<18+1 || e != api.OK || len(r.Foot().Infos[0].Blocks) != 1<<18 {
			t.Errorf("2^18 blocks: %d records, %d", k, e)
		}
		if has, e := r.Has(0, "\xff"); !has || e != api.OK {
			t.Errorf("2^18 blocks: the last key: %v, %d", has, e)
		}
	})
	t.Run("the store ahead", func(t *testing.T) {
		t.Parallel()
		w, s := full(t)
		s.StopAt("x", 0)
		if e := w.Add(rec(1, "", "")); e != api.ErrStopped {
			t.Errorf("the last block can't be written: %d", e)
		}
		broken(t, "stopped at the last block", w, api.ErrStopped)
	})
}

// bodied writes a spill whose footer's body has just so many bytes: each block has a row of 5 numbers of one byte, and what its Cut has beyond the Cut ahead.
func bodied(t *testing.T, size int) (*Writer, *store.Store, int) {
	t.Helper()
	s := store.New()
	w := creates(t, s, 1, shape(64, 1, 0))
	left := size - 8 // Parts, one Info, its step, a filter of one byte and its length, and a number of blocks of 3 bytes
	last, count := "", 0
	add := func(key string) {
		common := 0
		for common < len(last) && last[common] == key[common] {
			common++
		}
		left -= 5 + len(key) - common
		last = key
		count++
		adds(t, w, rec(0, key, ""))
	}
	for i := 0; left > 138; i++ {
		add(string([]byte{byte(i >> 12), byte(i >> 6 & 63), byte(i & 63)}) + long(61))
	}
	first := min(64, left-11)
	add("\xfe" + long(first-1))
	add("\xff" + long(left-6))
	if left != 0 {
		t.Fatalf("%d bytes are left", left)
	}
	return w, s, count
}

func TestMaxFoot(t *testing.T) {
	t.Parallel()
	t.Run("just", func(t *testing.T) {
		t.Parallel()
		w, s, count := bodied(t, 1<<24)
		n := closes(t, w, count)
		s.Publish("x")
		end, _ := s.Read("x", n-24, 24)
		if tr, e := foot.Trailer(end, n); tr.Pages != 1<<24+4*4096 || e != api.OK {
			t.Errorf("the pages have %d bytes, %d", tr.Pages, e)
		}
		opens(t, s, n)
		if m := s.Meter(); m.Reads != 2+4096 || m.Greatest != 4100 {
			t.Errorf("a footer of 2^24 bytes is read by %v", m)
		}
	})
	t.Run("one more", func(t *testing.T) {
		t.Parallel()
		w, _, _ := bodied(t, 1<<24+1)
		if n, k, e := w.Close(); n != 0 || k != 0 || e != api.ErrFull {
			t.Errorf("a footer of 2^24 + 1 bytes: %d, %d, %d", n, k, e)
		}
		broken(t, "a footer of 2^24 + 1 bytes", w, api.ErrFull)
	})
}

// 9.12

// stops runs a writer with a stop at a byte, and holds each answer against what is to be written by then.
func stops(t *testing.T, parts int, sh api.Shape, records []api.Record, whole []byte, at int) {
	t.Helper()
	s := store.New()
	w := creates(t, s, parts, sh)
	s.StopAt("x", int64(at))
	stopped := false
	for i, size := range written(t, sh, records) {
		stopped = size > at
		want := api.OK
		if stopped {
			want = api.ErrStopped
		}
		if e := w.Add(records[i]); e != want {
			t.Fatalf("a stop at %d: record %d: %d, want %d", at, i, e, want)
		}
	}
	n, k, e := w.Close()
	if at < len(whole) {
		if n != 0 || k != 0 || e != api.ErrStopped {
			t.Fatalf("a stop at %d: Close: %d, %d, %d", at, n, k, e)
		}
		broken(t, "stopped", w, api.ErrStopped)
	} else if n != int64(len(whole)) || k != int64(len(records)) || e != api.OK {
		t.Fatalf("a stop at the end: Close: %d, %d, %d", n, k, e)
	}
	if got := sizeOf(s, "x"); got != min(at, len(whole)) {
		t.Fatalf("a stop at %d: %d bytes stand", at, got)
	}
	if e := s.Publish("x"); e != api.ErrStopped {
		t.Fatalf("a stop at %d: Publish: %d", at, e)
	}
	if r, e := Open(s, "x", int64(len(whole))); r != nil || e != api.ErrOpen {
		t.Fatalf("a stop at %d: Open: %v, %d", at, r, e)
	}
}

func TestStops(t *testing.T) {
	random := rand.New(rand.NewSource(912))
	for _, records := range [][]api.Record{
		nil, {rec(0, "a", "")}, {rec(0, "a", long(60)), rec(0, "a", long(61)), rec(0, "b", ""), rec(2, "a", "")}, randomRecords(random, 3, 20), randomRecords(random, 3, 20),
	} {
		sh := shape(64, 2, 9)
		whole := plainSpill(t, 3, sh, records)
		for at := range len(whole) + 2 {
			stops(t, 3, sh, records, whole, at)
		}
	}
}

func TestSameBytes(t *testing.T) {
	random := rand.New(rand.NewSource(9121))
	for range 60 {
		sh := randomShape(random)
		records := randomRecords(random, 4, 40)
		want := plainSpill(t, 4, sh, records)
		// Many at one time, in one store, by other names, among refused records, beside readers.
		s := store.New()
		names := []string{"a", "b-1", strings.Repeat("z", 40)}
		var list []*Writer
		for _, name := range names {
			w, e := Create(s, name, 4, sh)
			if e != api.OK {
				t.Fatalf("Create: %d", e)
			}
			list = append(list, w)
		}
		for _, r := range records {
			for _, w := range list {
				adds(t, w, r)
				w.Add(rec(4, "z", ""))
				w.Add(rec(-1, "", ""))
				w.Add(rec(r.Part, long(1025), ""))
				w.Add(rec(r.Part-1, "a", ""))
			}
		}
		for i, w := range list {
			closes(t, w, len(records))
			s.Publish(names[i])
			if got := bytesOf(t, s, names[i]); !bytes.Equal(got, want) {
				t.Fatalf("spill %d of the same records has other bytes", i)
			}
		}
	}
}
