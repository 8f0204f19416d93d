package spill

import (
	"bytes"
	"encoding/binary"
	"fmt"
	"math/rand"
	"slices"
	"strings"
	"testing"

	"winnow/api"
	"winnow/block"
	"winnow/filter"
	"winnow/foot"
	"winnow/store"
)

// The calls have these signatures, to the letter.
var (
	_ func(s *store.Store, name string, parts int, shape api.Shape) (*Writer, api.Errno) = Create
	_ func(*Writer, api.Record) api.Errno                                                = (*Writer).Add
	_ func(*Writer) (int64, int64, api.Errno)                                            = (*Writer).Close
	_ func(s *store.Store, name string, length int64) (*Reader, api.Errno)               = Open
	_ func(*Reader) int                                                                  = (*Reader).Parts
	_ func(*Reader, int) (int64, api.Errno)                                              = (*Reader).Count
	_ func(*Reader) api.Foot                                                             = (*Reader).Foot
	_ func(*Reader, int) (*Cursor, api.Errno)                                            = (*Reader).Scan
	_ func(*Reader, int, string) (*Cursor, api.Errno)                                    = (*Reader).Seek
	_ func(*Reader, int, string) (bool, api.Errno)                                       = (*Reader).Has
	_ func(*Cursor) (api.Pair, bool, api.Errno)                                          = (*Cursor).Next
)

// rec tells a record.
func rec(part int, key, value string) api.Record {
	return api.Record{Part: part, Key: key, Value: value}
}

// shape tells a shape.
func shape(block, restart, bits int) api.Shape {
	return api.Shape{Block: block, Restart: restart, Bits: bits}
}

// short tells the first 64 bytes of a text, or all of it.
func short(key string) string {
	if len(key) > 64 {
		return key[:64]
	}
	return key
}

// plainBlock is a block as the document has it.
type plainBlock struct {
	part  int
	pairs []api.Pair
	raw   int
	tile  []byte
}

// plainBytes tells the raw bytes of entries, by the words of chapter 6; of keys that fall, too.
func plainBytes(pairs []api.Pair, restart int) []byte {
	var out, places []byte
	for i, p := range pairs {
		common := 0
		if i%restart == 0 {
			places = binary.LittleEndian.AppendUint32(places, uint32(len(out)))
		} else {
			for common < len(p.Key) && strings.HasPrefix(pairs[i-1].Key, p.Key[:common+1]) {
				common++
			}
		}
		for _, n := range []int{common, len(p.Key) - common, len(p.Value)} {
			out = binary.AppendUvarint(out, uint64(n))
		}
		out = append(out, p.Key[common:]+p.Value...)
	}
	out = append(out, places...)
	out = binary.LittleEndian.AppendUint32(out, uint32(restart))
	return binary.LittleEndian.AppendUint32(out, uint32(len(pairs)))
}

// plainRaw counts them.
func plainRaw(pairs []api.Pair, restart int) int {
	return len(plainBytes(pairs, restart))
}

// plainTile tells the tile of entries.
func plainTile(t *testing.T, pairs []api.Pair, restart int) ([]byte, int) {
	t.Helper()
	b, e := block.NewBuilder(restart, api.MaxBlock)
	for _, p := range pairs {
		if e == api.OK {
			e = b.Add(p.Key, p.Value)
		}
	}
	if e != api.OK {
		t.Fatalf("a plain block: %d", e)
	}
	tile, raw, e := b.Finish()
	if e != api.OK {
		t.Fatalf("a plain block: %d", e)
	}
	return tile, raw
}

// plainCut cuts records into blocks, by the words of 9.2. All of them have to be such as are taken.
func plainCut(t *testing.T, sh api.Shape, records []api.Record) []plainBlock {
	t.Helper()
	var blocks []plainBlock
	for _, r := range records {
		pair := api.Pair{Key: r.Key, Value: r.Value}
		if n := len(blocks) - 1; n >= 0 && blocks[n].part == r.Part {
			more := append(slices.Clone(blocks[n].pairs), pair)
			if plainRaw(more, sh.Restart) <= sh.Block {
				blocks[n].pairs = more
				continue
			}
		}
		blocks = append(blocks, plainBlock{part: r.Part, pairs: []api.Pair{pair}})
	}
	for i := range blocks {
		blocks[i].tile, blocks[i].raw = plainTile(t, blocks[i].pairs, sh.Restart)
	}
	return blocks
}

// plainFoot tells the footer of blocks, by the words of 9.3.
func plainFoot(t *testing.T, parts, bits int, blocks []plainBlock) api.Foot {
	t.Helper()
	f := api.Foot{Parts: parts}
	keys := map[int][]string{}
	for _, b := range blocks {
		n := len(f.Infos) - 1
		if n < 0 || f.Infos[n].Part != b.part {
			f.Infos = append(f.Infos, api.PartInfo{Part: b.part})
			n++
		}
		f.Infos[n].Blocks = append(f.Infos[n].Blocks, api.BlockInfo{
			Stored: len(b.tile) - 5, Raw: b.raw, Count: len(b.pairs), Cut: short(b.pairs[0].Key),
		})
		for _, p := range b.pairs {
			keys[b.part] = append(keys[b.part], p.Key)
		}
	}
	for i := range f.Infos {
		info := &f.Infos[i]
		var e api.Errno
		if info.Filter, e = filter.Build(slices.Compact(keys[info.Part]), bits); e != api.OK {
			t.Fatalf("a plain filter: %d", e)
		}
	}
	return f
}

// plainFile tells the bytes of a file of blocks and a footer.
func plainFile(t *testing.T, blocks []plainBlock, f api.Foot) []byte {
	t.Helper()
	var out []byte
	for _, b := range blocks {
		out = append(out, b.tile...)
	}
	end, e := foot.Encode(f)
	if e != api.OK {
		t.Fatalf("a plain footer: %d", e)
	}
	return append(out, end...)
}

// plainSpill tells the bytes of a spill.
func plainSpill(t *testing.T, parts int, sh api.Shape, records []api.Record) []byte {
	t.Helper()
	blocks := plainCut(t, sh, records)
	return plainFile(t, blocks, plainFoot(t, parts, sh.Bits, blocks))
}

// plainOpen tells the footer of a file, by the words of 9.4.
func plainOpen(b []byte, length int64) (api.Foot, api.Errno) {
	size := int64(len(b))
	if size != length {
		return api.Foot{}, api.ErrLength
	}
	if size < 24 {
		return api.Foot{}, api.ErrTrailer
	}
	t, e := foot.Trailer(b[size-24:], size)
	if e != api.OK {
		return api.Foot{}, e
	}
	return foot.Decode(b[t.Blocks:t.Blocks+t.Pages], t)
}

// plainTale is what a cursor is to tell: records, and whether then ErrCorrupt. Readings: how many blocks were read ahead of each answer, the last one included.
type plainTale struct {
	pairs    []api.Pair
	corrupt  bool
	readings []int
}

// plainSeek tells what a cursor is to tell, by the words of 9.5 and 9.6.
func plainSeek(b []byte, f api.Foot, part int, key string) plainTale {
	var tale plainTale
	from, readings := 0, 0
	for _, info := range f.Infos {
		first := 0
		for i, in := range info.Blocks {
			if in.Cut < short(key) {
				first = i
			}
		}
		var last *string
		for i, in := range info.Blocks {
			tile := b[min(from, len(b)):min(from+in.Stored+5, len(b))]
			from += in.Stored + 5
			if info.Part != part || i < first || tale.corrupt {
				continue
			}
			readings++
			r, e := block.Open(tile, in.Raw)
			if e != api.OK || len(tile) != in.Stored+5 || r.Len() != in.Count {
				tale.corrupt = true
				continue
			}
			k, _, _ := r.At(0)
			if short(k) != in.Cut || last != nil && k < *last {
				tale.corrupt = true
				continue
			}
			for k, v := range r.All() {
				if k >= key {
					tale.pairs = append(tale.pairs, api.Pair{Key: k, Value: v})
					tale.readings = append(tale.readings, readings)
				}
				last = &k
			}
		}
	}
	tale.readings = append(tale.readings, readings)
	return tale
}

// put publishes bytes as a blob.
func put(t *testing.T, s *store.Store, name string, b []byte) {
	t.Helper()
	for _, e := range []api.Errno{s.Create(name), s.Append(name, b), s.Publish(name)} {
		if e != api.OK {
			t.Fatalf("a blob: %d", e)
		}
	}
}

// stored tells a store with these bytes as the blob "x".
func stored(t *testing.T, b []byte) *store.Store {
	t.Helper()
	s := store.New()
	put(t, s, "x", b)
	return s
}

// bytesOf tells the bytes of a published blob.
func bytesOf(t *testing.T, s *store.Store, name string) []byte {
	t.Helper()
	b, e := s.Read(name, 0, api.MaxBlob)
	if e != api.OK {
		t.Fatalf("the bytes of %s: %d", name, e)
	}
	return b
}

// sizeOf tells the size of a blob that may be open.
func sizeOf(s *store.Store, name string) int {
	for _, info := range s.List(name) {
		if info.Name == name {
			return info.Size
		}
	}
	return -1
}

// creates begins a spill "x" that may be.
func creates(t *testing.T, s *store.Store, parts int, sh api.Shape) *Writer {
	t.Helper()
	w, e := Create(s, "x", parts, sh)
	if w == nil || e != api.OK {
		t.Fatalf("Create of %d partitions, %v: %v, %d", parts, sh, w, e)
	}
	return w
}

// adds adds records that are taken.
func adds(t *testing.T, w *Writer, records ...api.Record) {
	t.Helper()
	for i, r := range records {
		if e := w.Add(r); e != api.OK {
			t.Fatalf("Add of record %d, {%d, %.40q, %.40q}: %d", i, r.Part, r.Key, r.Value, e)
		}
	}
}

// closes closes a spill and tells its length.
func closes(t *testing.T, w *Writer, records int) int64 {
	t.Helper()
	n, k, e := w.Close()
	if k != int64(records) || e != api.OK {
		t.Fatalf("Close: %d, %d, %d, want %d records", n, k, e, records)
	}
	return n
}

// spilt writes a spill "x" into a new store, holds its bytes against the plain ones, and publishes it.
func spilt(t *testing.T, parts int, sh api.Shape, records ...api.Record) (*store.Store, int64) {
	t.Helper()
	s := store.New()
	w := creates(t, s, parts, sh)
	adds(t, w, records...)
	n := closes(t, w, len(records))
	if e := s.Publish("x"); e != api.OK {
		t.Fatalf("Publish: %d", e)
	}
	got := bytesOf(t, s, "x")
	if want := plainSpill(t, parts, sh, records); !bytes.Equal(got, want) || n != int64(len(want)) {
		t.Fatalf("a spill of %d records in %d partitions by %v has the bytes %x, %d, want %x", len(records), parts, sh, got, n, want)
	}
	return s, n
}

// opens opens a spill "x" that may be opened.
func opens(t *testing.T, s *store.Store, length int64) *Reader {
	t.Helper()
	r, e := Open(s, "x", length)
	if r == nil || e != api.OK {
		t.Fatalf("Open: %v, %d", r, e)
	}
	return r
}

// reopened writes a spill, publishes and opens it.
func reopened(t *testing.T, parts int, sh api.Shape, records ...api.Record) (*Reader, *store.Store) {
	t.Helper()
	s, n := spilt(t, parts, sh, records...)
	return opens(t, s, n), s
}

// holds goes through a cursor, to its end and thrice behind it, and holds its answers, and what is read for each, against a tale.
func holds(t *testing.T, what string, s *store.Store, c *Cursor, e api.Errno, want plainTale) {
	t.Helper()
	if c == nil || e != api.OK {
		t.Fatalf("%s: %v, %d", what, c, e)
	}
	before := s.Meter().Reads
	reads := func(i int) {
		t.Helper()
		if got := int(s.Meter().Reads - before); got != want.readings[i] {
			t.Fatalf("%s: %d readings for answer %d, want %d", what, got, i, want.readings[i])
		}
	}
	for i, pair := range want.pairs {
		p, some, e := c.Next()
		if p != pair || !some || e != api.OK {
			t.Fatalf("%s: record %d: %q, %v, %d, want %q", what, i, p, some, e, pair)
		}
		reads(i)
	}
	end := api.OK
	if want.corrupt {
		end = api.ErrCorrupt
	}
	for range 3 {
		if p, some, e := c.Next(); p != (api.Pair{}) || some || e != end {
			t.Fatalf("%s: behind %d records: %q, %v, %d, want %d", what, len(want.pairs), p, some, e, end)
		}
		reads(len(want.pairs))
	}
}

// plainHas tells what Has is to tell.
func plainHas(b []byte, f api.Foot, part int, key string) (bool, api.Errno) {
	for _, info := range f.Infos {
		if info.Part != part || !filter.Has(info.Filter, key) {
			continue
		}
		tale := plainSeek(b, f, part, key)
		if len(tale.pairs) > 0 {
			return tale.pairs[0].Key == key, api.OK
		}
		if tale.corrupt {
			return false, api.ErrCorrupt
		}
	}
	return false, api.OK
}

// probes tells keys to look for in partitions with these keys: they, and what is just below and above.
func probes(keys ...string) []string {
	out := []string{"", "\x00", strings.Repeat("\xff", 1100)}
	for _, k := range keys {
		out = append(out, k, k+"\x00")
		if n := len(k); n > 0 {
			out = append(out, k[:n-1], k[:n-1]+string(k[n-1]-1)+"\xff")
		}
		if len(k) > 64 {
			out = append(out, k[:63], k[:64], k[:65])
		}
	}
	slices.Sort(out)
	return slices.Compact(out)
}

// reads holds all that a reader tells of a file against the plain readings of its bytes.
func reads(t *testing.T, what string, s *store.Store, r *Reader, b []byte, f api.Foot, keys []string) {
	t.Helper()
	if r.Parts() != f.Parts || !alike(r.Foot(), f) {
		t.Fatalf("%s: %d partitions, want %d, or another footer", what, r.Parts(), f.Parts)
	}
	list := []int{0, f.Parts / 2, f.Parts - 1}
	for _, info := range f.Infos {
		list = append(list, info.Part, min(info.Part+1, f.Parts-1))
	}
	slices.Sort(list)
	for _, part := range slices.Compact(list) {
		if n, e := r.Count(part); n != plainCount(f, part) || e != api.OK {
			t.Fatalf("%s: Count(%d): %d, %d, want %d", what, part, n, e, plainCount(f, part))
		}
		c, e := r.Scan(part)
		holds(t, fmt.Sprintf("%s: Scan(%d)", what, part), s, c, e, plainSeek(b, f, part, ""))
		for _, key := range keys {
			c, e := r.Seek(part, key)
			holds(t, fmt.Sprintf("%s: Seek(%d, %q)", what, part, key), s, c, e, plainSeek(b, f, part, key))
			want, wantErr := plainHas(b, f, part, key)
			if has, e := r.Has(part, key); has != want || e != wantErr {
				t.Fatalf("%s: Has(%d, %q): %v, %d, want %v, %d", what, part, key, has, e, want, wantErr)
			}
		}
	}
}

// plainCount tells how many records the footer says.
func plainCount(f api.Foot, part int) int64 {
	n := 0
	for _, info := range f.Infos {
		for _, b := range info.Blocks {
			if info.Part == part {
				n += b.Count
			}
		}
	}
	return int64(n)
}

// alike tells whether two footers are the same.
func alike(a, b api.Foot) bool {
	return a.Parts == b.Parts && slices.EqualFunc(a.Infos, b.Infos, func(x, y api.PartInfo) bool {
		return x.Part == y.Part && slices.Equal(x.Blocks, y.Blocks) &&
			x.Filter.All == y.Filter.All && x.Filter.Hashes == y.Filter.Hashes && bytes.Equal(x.Filter.Data, y.Filter.Data)
	})
}

// keysOf tells the keys of records, each once.
func keysOf(records []api.Record) []string {
	var keys []string
	for _, r := range records {
		keys = append(keys, r.Key)
	}
	slices.Sort(keys)
	return slices.Compact(keys)
}

// randomKey tells a key out of few letters, so that many are alike, or begin alike beyond an index key.
func randomKey(r *rand.Rand) string {
	n := r.Intn(4)
	switch r.Intn(8) {
	case 0:
		n = 62 + r.Intn(5)
	case 1:
		n = r.Intn(120)
	}
	k := []byte(strings.Repeat("a", n))
	for range r.Intn(3) {
		if n > 0 {
			k[n-1-r.Intn(min(n, 3))] = "\x00ab\xff"[r.Intn(4)]
		}
	}
	return string(k)
}

// randomRecords tells sorted records of some partitions.
func randomRecords(r *rand.Rand, parts, most int) []api.Record {
	var out []api.Record
	for range r.Intn(most + 1) {
		out = append(out, rec(r.Intn(parts), randomKey(r), strings.Repeat(string(rune('p'+r.Intn(3))), r.Intn(1+r.Intn(40)))))
	}
	slices.SortStableFunc(out, func(a, b api.Record) int {
		if a.Part != b.Part {
			return a.Part - b.Part
		}
		return strings.Compare(a.Key, b.Key)
	})
	return out
}

// randomShape tells a shape, of small blocks mostly.
func randomShape(r *rand.Rand) api.Shape {
	return shape(64+r.Intn(1+r.Intn(300)), 1+r.Intn(1+r.Intn(64)), r.Intn(17))
}

// long tells a text of n bytes.
func long(n int) string {
	return strings.Repeat("k", n)
}
