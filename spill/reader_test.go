package spill

import (
	"encoding/binary"
	"fmt"
	"hash/crc32"
	"math"
	"math/rand"
	"slices"
	"strings"
	"testing"

	"winnow/api"
	"winnow/filter"
	"winnow/foot"
	"winnow/store"
)

// seal tells bytes with their sum behind them.
func seal(b []byte) []byte {
	sum := crc32.Checksum(b, crc32.MakeTable(crc32.Castagnoli))
	return binary.LittleEndian.AppendUint32(slices.Clone(b), sum)
}

// trailer tells a trailer whose sum is right.
func trailer(magic string, blocks, pages uint64) []byte {
	b := binary.LittleEndian.AppendUint64([]byte(magic), blocks)
	return seal(binary.LittleEndian.AppendUint64(b, pages))
}

// join tells pieces of a file one behind the other.
func join(pieces ...[]byte) []byte {
	return slices.Concat(pieces...)
}

// 9.4

func TestOpenRefusesBlobs(t *testing.T) {
	s, n := spilt(t, 3, shape(64, 2, 8), rec(0, "a", "1"), rec(2, "b", ""))
	s.Create("open")
	s.Append("open", bytesOf(t, s, "x"))
	s.Create("stopped")
	s.StopAt("stopped", 0)
	s.Append("stopped", []byte{1})
	put(t, s, "none", nil)
	put(t, s, "few", make([]byte, 23))
	put(t, s, "zeros", make([]byte, 24))
	before := s.Meter()
	for name, row := range map[string]struct {
		length int64
		want   api.Errno
	}{
		"": {n, api.ErrName}, "X": {n, api.ErrName}, "x ": {n, api.ErrName}, long(41): {n, api.ErrName},
		"y": {n, api.ErrNoBlob}, long(40): {n, api.ErrNoBlob}, "open": {n, api.ErrOpen}, "stopped": {n, api.ErrOpen},
	} {
		for _, length := range []int64{row.length, row.length - 1, 0, -1, math.MaxInt64} {
			if r, e := Open(s, name, length); r != nil || e != row.want {
				t.Errorf("Open of %q, %d: %v, %d, want %d", name, length, r, e, row.want)
			}
			if r, e := Open(nil, name, length); r != nil || e != api.ErrNil {
				t.Errorf("Open of %q, %d in no store: %v, %d", name, length, r, e)
			}
		}
	}
	for name, size := range map[string]int64{"x": n, "none": 0, "few": 23, "zeros": 24} {
		for _, length := range []int64{size - 1, size + 1, -size - 1, 0, 1, 22, 23, 24, 25, 1<<32 + size, math.MinInt64, math.MaxInt64} {
			if length == size {
				continue
			}
			if r, e := Open(s, name, length); r != nil || e != api.ErrLength {
				t.Errorf("Open of %s, %d: %v, %d", name, length, r, e)
			}
		}
	}
	if s.Meter() != before {
		t.Errorf("what is refused ahead of reading is read")
	}
}

func TestOpenRefusesBytes(t *testing.T) {
	s, n := spilt(t, 3, shape(64, 2, 8), rec(0, "a", "1"), rec(2, "b", ""))
	whole := bytesOf(t, s, "x")
	tr, e := foot.Trailer(whole[n-24:], n)
	if e != api.OK {
		t.Fatalf("the trailer: %d", e)
	}
	blocks, pages := whole[:tr.Blocks], whole[tr.Blocks:tr.Blocks+tr.Pages]
	end := func(blocks, pages int64) []byte { return trailer("wnw1", uint64(blocks), uint64(pages)) }
	refuses := func(what string, b []byte, want api.Errno) {
		t.Helper()
		if _, e := plainOpen(b, int64(len(b))); e != want {
			t.Fatalf("%s: the plain reading says %d", what, e)
		}
		if r, e := Open(stored(t, b), "x", int64(len(b))); r != nil || e != want {
			t.Errorf("%s: %v, %d, want %d", what, r, e, want)
		}
	}
	for size := range 24 {
		refuses("few bytes", make([]byte, size), api.ErrTrailer)
		refuses("a piece of a trailer", whole[n-int64(size):], api.ErrTrailer)
	}
	refuses("24 zeros", make([]byte, 24), api.ErrTrailer)
	refuses("another magic", join(blocks, pages, trailer("wnw2", uint64(tr.Blocks), uint64(tr.Pages))), api.ErrTrailer)
	refuses("another sum", join(whole[:n-1], []byte{whole[n-1] ^ 1}), api.ErrTrailer)
	refuses("no pages", join(blocks, end(tr.Blocks, 0)), api.ErrTrailer)
	refuses("pages of 4 bytes", join(blocks, pages[:4], end(tr.Blocks, 4)), api.ErrTrailer)
	refuses("too many bytes of blocks", join(blocks, pages, end(1<<28+1, tr.Pages)), api.ErrTrailer)
	refuses("too many bytes of pages", join(blocks, pages, end(tr.Blocks, 1<<24+4*4096+1)), api.ErrTrailer)
	refuses("blocks below 0", join(blocks, pages, end(-1, tr.Pages)), api.ErrTrailer)
	refuses("a trailer alone", whole[n-24:], api.ErrLength)
	refuses("a trailer of one byte more", join(blocks, pages, end(tr.Blocks+1, tr.Pages)), api.ErrLength)
	refuses("a trailer of one byte less", join(blocks, pages, end(tr.Blocks-1, tr.Pages)), api.ErrLength)
	refuses("one byte more ahead", join([]byte{0}, whole), api.ErrLength)
	refuses("one byte less ahead", whole[1:], api.ErrLength)
	refuses("one byte more behind", join(whole, []byte{0}), api.ErrTrailer)
	refuses("the seam one further", join(blocks, pages, end(tr.Blocks+1, tr.Pages-1)), api.ErrFoot)
	refuses("the seam one less", join(blocks, pages, end(tr.Blocks-1, tr.Pages+1)), api.ErrFoot)
	refuses("a page's sum", join(blocks, pages[:len(pages)-1], []byte{pages[len(pages)-1] ^ 1}, whole[n-24:]), api.ErrFoot)
	refuses("a page and the trailer", join(blocks, pages[:len(pages)-1], []byte{pages[len(pages)-1] ^ 1}, trailer("wnw2", uint64(tr.Blocks), uint64(tr.Pages))), api.ErrTrailer)
	body := []byte{1, 0, 0}
	refuses("a body that is none", join(seal(body), end(0, 7)), api.ErrFoot)
	body = []byte{0, 0}
	refuses("no partitions", join(seal(body), end(0, 6)), api.ErrFoot)
	body = []byte{1, 0}
	refuses("blocks that the footer does not tell of", join([]byte{9}, seal(body), end(1, 6)), api.ErrFoot)
	refuses("blocks that are not there", join(pages, end(0, tr.Pages)), api.ErrFoot)
}

// padded tells a footer whose body has so many bytes: by the bytes of the first filter, and as many further blocks as are needed.
func padded(t *testing.T, size int) api.Foot {
	t.Helper()
	f := api.Foot{Parts: 9, Infos: []api.PartInfo{{Part: 3, Filter: api.Filter{Hashes: 3, Data: make([]byte, 1)}}}}
	info := &f.Infos[0]
	add := func(cut string) {
		info.Blocks = append(info.Blocks, api.BlockInfo{Stored: 7, Raw: 9, Count: 1, Cut: cut})
	}
	add("")
	bodySize := func() int {
		b, e := foot.Encode(f)
		if e != api.OK {
			t.Fatalf("a footer: %d", e)
		}
		n := len(b) - 24
		return n - 4*((n+4099)/4100)
	}
	for i := 0; bodySize()+3000 < size; i++ {
		add(string([]byte{byte(1 + i/200), byte(i % 200)}) + long(62))
	}
	for bodySize() < size {
		info.Filter.Data = append(info.Filter.Data, 0)
	}
	if bodySize() != size {
		t.Fatalf("a body of %d bytes, not of %d", bodySize(), size)
	}
	return f
}

// Each byte of the pages and the trailer is read once, page by page; no byte of a block is.
func TestOpenReads(t *testing.T) {
	for _, size := range []int{100, 4095, 4096, 4097, 4099, 4100, 4101, 8191, 8192, 8193, 20480, 20481} {
		f := padded(t, size)
		b, _ := foot.Encode(f)
		blocks := make([]byte, 12*len(f.Infos[0].Blocks))
		s := stored(t, join(blocks, b))
		r := opens(t, s, int64(len(blocks)+len(b)))
		pages := (size + 4095) / 4096
		if m := s.Meter(); m.Reads != int64(1+pages) || m.Bytes != int64(len(b)) || m.Greatest != max(24, min(size, 4096)+4) {
			t.Errorf("a body of %d bytes is read by %v", size, m)
		}
		if !alike(r.Foot(), f) || r.Parts() != 9 {
			t.Errorf("a body of %d bytes: another footer", size)
		}
		// The first page that is hit is the last one that is read.
		for page := range pages {
			s.Flip("x", int64(8*(len(blocks)+4100*page)), 1)
			before := s.Meter()
			if r, e := Open(s, "x", int64(len(blocks)+len(b))); r != nil || e != api.ErrFoot {
				t.Errorf("page %d is hit: %v, %d", page, r, e)
			}
			if n := s.Meter().Reads - before.Reads; n != int64(2+page) {
				t.Errorf("page %d is hit: %d readings", page, n)
			}
			s.Flip("x", int64(8*(len(blocks)+4100*page)), 1)
		}
	}
}

// 9.5

func TestNilReader(t *testing.T) {
	var r *Reader
	if r.Parts() != 0 || !alike(r.Foot(), api.Foot{}) {
		t.Errorf("nil has %d partitions, the footer %v", r.Parts(), r.Foot())
	}
	for _, part := range []int{-1, 0, 1, math.MinInt, math.MaxInt} {
		wrong(t, r, part, api.ErrNil)
	}
}

// wrong holds the calls of a reader against an error that all of them answer.
func wrong(t *testing.T, r *Reader, part int, want api.Errno) {
	t.Helper()
	if n, e := r.Count(part); n != 0 || e != want {
		t.Errorf("Count(%d): %d, %d, want %d", part, n, e, want)
	}
	if c, e := r.Scan(part); c != nil || e != want {
		t.Errorf("Scan(%d): %v, %d, want %d", part, c, e, want)
	}
	for _, key := range []string{"", "a", "b", long(2000)} {
		if c, e := r.Seek(part, key); c != nil || e != want {
			t.Errorf("Seek(%d, %q): %v, %d, want %d", part, key, c, e, want)
		}
		if has, e := r.Has(part, key); has || e != want {
			t.Errorf("Has(%d, %q): %v, %d, want %d", part, key, has, e, want)
		}
	}
}

func TestNoSuchPartition(t *testing.T) {
	for _, parts := range []int{1, 3, 65535} {
		for _, records := range [][]api.Record{nil, {rec(0, "a", "1")}, {rec(0, "a", ""), rec(parts-1, "b", "")}} {
			r, s := reopened(t, parts, shape(64, 2, 0), records...)
			before := s.Meter()
			for _, part := range []int{-1, parts, parts + 1, -parts, 1 << 32, 65536, math.MinInt, math.MaxInt} {
				wrong(t, r, part, api.ErrArg)
			}
			if s.Meter() != before {
				t.Errorf("something is read of a partition that is none")
			}
		}
	}
}

// Partitions without records, at the beginning, in the middle, at the end.
func TestEmptyPartitions(t *testing.T) {
	for _, some := range [][]int{{}, {0}, {1}, {4}, {0, 4}, {2, 3}, {0, 1, 2, 3, 4}} {
		var records []api.Record
		for _, part := range some {
			records = append(records, rec(part, "a", fmt.Sprint(part)), rec(part, "b", ""))
		}
		for _, bits := range []int{0, 10} {
			r, s := reopened(t, 5, shape(64, 2, bits), records...)
			for part := range 5 {
				var want plainTale
				if slices.Contains(some, part) {
					want.pairs = []api.Pair{{Key: "a", Value: fmt.Sprint(part)}, {Key: "b"}}
					want.readings = []int{1, 1, 1}
				} else {
					want.readings = []int{0}
				}
				c, e := r.Scan(part)
				holds(t, "Scan", s, c, e, want)
				c, e = r.Seek(part, "a")
				holds(t, "Seek", s, c, e, want)
				if n, e := r.Count(part); n != int64(len(want.pairs)) || e != api.OK {
					t.Errorf("Count(%d): %d, %d", part, n, e)
				}
				if has, e := r.Has(part, "b"); has != (len(want.pairs) > 0) || e != api.OK {
					t.Errorf("Has(%d, b): %v, %d", part, has, e)
				}
			}
		}
	}
}

// Seek of keys below all, at, between and above all.
func TestSeek(t *testing.T) {
	var records []api.Record
	for _, key := range []string{"b", "d", "d", "f", "h"} {
		records = append(records, rec(1, key, key+long(40)))
	}
	for _, size := range []int{64, 128, 4096} {
		r, s := reopened(t, 3, shape(size, 2, 12), append(append([]api.Record{rec(0, "z", "")}, records...), rec(2, "a", ""))...)
		for key, from := range map[string]int{
			"": 0, "a": 0, "az": 0, "b": 0, "b\x00": 1, "c": 1, "d": 1, "d\x00": 3, "e": 3, "f": 3, "g": 4, "h": 4, "h\x00": 5, "i": 5, "\xff": 5, long(1025): 5, strings.Repeat("a", 5000): 0,
		} {
			var want []api.Pair
			for _, r := range records[from:] {
				want = append(want, api.Pair{Key: r.Key, Value: r.Value})
			}
			c, e := r.Seek(1, key)
			if got := told(t, c, e); !slices.Equal(got, want) {
				t.Errorf("blocks of %d: Seek(1, %q): %q, want %q", size, key, got, want)
			}
			is := from < 5 && records[from].Key == key
			if has, e := r.Has(1, key); has != is || e != api.OK {
				t.Errorf("blocks of %d: Has(1, %q): %v, %d", size, key, has, e)
			}
		}
		if s.Meter().Greatest > 65552 {
			t.Errorf("a reading of %d bytes", s.Meter().Greatest)
		}
	}
}

// told tells all records of a cursor that comes to its end.
func told(t *testing.T, c *Cursor, e api.Errno) []api.Pair {
	t.Helper()
	var out []api.Pair
	for e == api.OK {
		var p api.Pair
		var some bool
		p, some, e = c.Next()
		if !some {
			break
		}
		out = append(out, p)
	}
	if e != api.OK {
		t.Fatalf("a cursor: %d", e)
	}
	return out
}

// Keys that are alike over many blocks, and keys that are alike in as many bytes as an index key has, or one less or more.
func TestAlikeKeys(t *testing.T) {
	base := long(62)
	var keys []string
	for _, tail := range []string{"", "a", "aa", "aaa", "aaab", "aab", "ab", "aba", "b", "bb", "bbb"} {
		keys = append(keys, base+tail)
	}
	for times := 1; times <= 5; times++ {
		for _, sh := range []api.Shape{shape(64, 1, 0), shape(64, 1, 10), shape(200, 2, 0), shape(300, 16, 10)} {
			var records []api.Record
			for part := range 2 {
				for _, key := range keys {
					for i := range times {
						records = append(records, rec(part, key, fmt.Sprint(part, key[62:], i)))
					}
				}
			}
			r, s := reopened(t, 2, sh, records...)
			b := bytesOf(t, s, "x")
			f, _ := plainOpen(b, int64(len(b)))
			reads(t, "alike keys", s, r, b, f, probes(keys...))
			for _, key := range probes(keys...) {
				var want []api.Pair
				for _, r := range records {
					if r.Part == 1 && r.Key >= key {
						want = append(want, api.Pair{Key: r.Key, Value: r.Value})
					}
				}
				c, e := r.Seek(1, key)
				if got := told(t, c, e); !slices.Equal(got, want) {
					t.Errorf("%v, %d times: Seek of %q tells %d records, want %d", sh, times, key, len(got), len(want))
				}
				has, e := r.Has(1, key)
				if has != slices.Contains(keys, key) || e != api.OK {
					t.Errorf("%v, %d times: Has of %q: %v, %d", sh, times, key, has, e)
				}
			}
		}
	}
}

// Example 4: alike keys, each in a block of its own; a Seek reads the block ahead of the first of them.
func TestAlikeKeysAreFound(t *testing.T) {
	records := []api.Record{rec(0, "a", long(50)), rec(0, "b", long(50))}
	key := strings.Repeat("c", 60)
	for i := range 40 {
		records = append(records, rec(0, key, fmt.Sprint(i)))
	}
	r, s := reopened(t, 1, shape(64, 2, 0), records...)
	if n := len(r.Foot().Infos[0].Blocks); n != 42 {
		t.Fatalf("%d blocks", n)
	}
	want := plainTale{}
	for i := range 40 {
		want.pairs = append(want.pairs, api.Pair{Key: key, Value: fmt.Sprint(i)})
		want.readings = append(want.readings, i+2)
	}
	want.readings = append(want.readings, 41)
	c, e := r.Seek(0, key)
	holds(t, "Seek of alike keys", s, c, e, want)
}

// What the filter denies is not looked for; what it does not deny is.
func TestHasAndFilter(t *testing.T) {
	var records []api.Record
	for i := range 50 {
		records = append(records, rec(1, fmt.Sprintf("key%02d", i), ""))
	}
	r, s := reopened(t, 3, shape(64, 2, 3), records...)
	f := r.Foot()
	denied, passed := 0, 0
	for i := range 400 {
		key := fmt.Sprintf("key%02dx%d", i%60, i)
		may := filter.Has(f.Infos[0].Filter, key)
		before := s.Meter().Reads
		has, e := r.Has(1, key)
		read := s.Meter().Reads > before
		if has || e != api.OK || read != may {
			t.Errorf("Has(1, %q): %v, %d; it is read: %v, the filter: %v", key, has, e, read, may)
		}
		if may {
			passed++
		} else {
			denied++
		}
	}
	if denied == 0 || passed == 0 {
		t.Errorf("%d keys are denied, %d not", denied, passed)
	}
	before := s.Meter()
	for _, part := range []int{0, 2} {
		if has, e := r.Has(part, "key01"); has || e != api.OK {
			t.Errorf("Has(%d): %v, %d", part, has, e)
		}
	}
	if s.Meter() != before {
		t.Errorf("something is read of a partition without records")
	}
	for _, rc := range records {
		if has, e := r.Has(1, rc.Key); !has || e != api.OK {
			t.Errorf("Has(1, %q): %v, %d", rc.Key, has, e)
		}
	}
}

// A footer's word is taken for Count, and its filter's for Has, whatever stands in the blocks.
func TestFooterIsBelieved(t *testing.T) {
	tile, raw := plainTile(t, []api.Pair{{Key: "a"}, {Key: "b"}}, 1)
	in := api.BlockInfo{Stored: len(tile) - 5, Raw: raw, Count: 2, Cut: "a"}
	other, _ := filter.Build([]string{"zz"}, 16)
	for _, row := range []struct {
		filter api.Filter
		count  int
		has    bool
		err    api.Errno
	}{
		{api.Filter{All: true}, 2, true, api.OK}, {api.Filter{}, 2, false, api.OK}, {other, 2, false, api.OK},
		{api.Filter{All: true}, 3, false, api.ErrCorrupt}, {api.Filter{All: true}, 1, false, api.ErrCorrupt}, {api.Filter{}, 1, false, api.OK},
	} {
		in.Count = row.count
		f := api.Foot{Parts: 2, Infos: []api.PartInfo{{Part: 1, Blocks: []api.BlockInfo{in}, Filter: row.filter}}}
		b := plainFile(t, []plainBlock{{tile: tile}}, f)
		r := opens(t, stored(t, b), int64(len(b)))
		if n, e := r.Count(1); n != int64(row.count) || e != api.OK {
			t.Errorf("Count: %d, %d, want %d", n, e, row.count)
		}
		if has, e := r.Has(1, "b"); has != row.has || e != row.err {
			t.Errorf("Has: %v, %d, want %v, %d", has, e, row.has, row.err)
		}
	}
}

// 9.6

func TestNilCursor(t *testing.T) {
	var c *Cursor
	for range 2 {
		if p, some, e := c.Next(); p != (api.Pair{}) || some || e != api.ErrNil {
			t.Errorf("Next of nil: %v, %v, %d", p, some, e)
		}
	}
}

// A block is read when its first record is wanted, Stored + 5 bytes, in one reading.
func TestWhenBlocksAreRead(t *testing.T) {
	var records []api.Record
	for i := range 30 {
		records = append(records, rec(i/20, fmt.Sprintf("%02d", i), strings.Repeat("v", i)))
	}
	r, s := reopened(t, 3, shape(100, 2, 0), records...)
	for part := range 3 {
		before := s.Meter()
		c, e := r.Scan(part)
		if e != api.OK || s.Meter() != before {
			t.Fatalf("Scan: %d, it reads %v", e, s.Meter())
		}
		if _, e := r.Seek(part, "05"); e != api.OK || s.Meter() != before {
			t.Fatalf("Seek: %d, it reads %v", e, s.Meter())
		}
		for _, info := range r.Foot().Infos {
			if info.Part != part {
				continue
			}
			for _, b := range info.Blocks {
				for i := range b.Count {
					before := s.Meter()
					_, some, e := c.Next()
					after := s.Meter()
					reads, bytes := after.Reads-before.Reads, after.Bytes-before.Bytes
					want, size := int64(0), int64(0)
					if i == 0 {
						want, size = 1, int64(b.Stored+5)
					}
					if !some || e != api.OK || reads != want || bytes != size {
						t.Fatalf("record %d of a block: %v, %d, %d readings of %d bytes, want %d of %d", i, some, e, reads, bytes, want, size)
					}
				}
			}
		}
		before = s.Meter()
		for range 3 {
			if _, some, e := c.Next(); some || e != api.OK || s.Meter() != before {
				t.Fatalf("behind the end: %v, %d", some, e)
			}
		}
	}
}

// The end stays the end, and damage stays damage, whatever becomes of the file.
func TestEndsStay(t *testing.T) {
	records := []api.Record{rec(0, "a", long(60)), rec(0, "b", long(60)), rec(0, "c", long(60))}
	r, s := reopened(t, 1, shape(64, 1, 0), records...)
	done, _ := r.Scan(0)
	told(t, done, api.OK)
	ahead, _ := r.Scan(0)
	ahead.Next()
	from := r.Foot().Infos[0].Blocks[0].Stored + 5
	s.Flip("x", int64(8*from), 1) // the second block
	for range 2 {
		if p, some, e := done.Next(); p != (api.Pair{}) || some || e != api.OK {
			t.Errorf("behind the end: %v, %v, %d", p, some, e)
		}
	}
	hit, _ := r.Scan(0)
	if p, some, e := hit.Next(); p.Key != "a" || !some || e != api.OK {
		t.Errorf("the first block: %v, %v, %d", p, some, e)
	}
	corrupt := func(what string, c *Cursor) {
		t.Helper()
		for range 2 {
			if p, some, e := c.Next(); p != (api.Pair{}) || some || e != api.ErrCorrupt {
				t.Errorf("%s: %v, %v, %d", what, p, some, e)
			}
		}
	}
	corrupt("the second block", hit)
	corrupt("the second block, hit behind the opening of the first", ahead)
	s.Flip("x", int64(8*from), 1)
	corrupt("the second block, whole once more", hit)
	corrupt("the second block, whole once more", ahead)
	fresh, _ := r.Scan(0)
	if got := told(t, fresh, api.OK); len(got) != 3 {
		t.Errorf("a new cursor tells %d records", len(got))
	}
	late, _ := r.Scan(0)
	late.Next()
	s.Delete("x")
	corrupt("a file that is gone", late)
	if has, e := r.Has(0, "a"); has || e != api.ErrCorrupt {
		t.Errorf("Has of a file that is gone: %v, %d", has, e)
	}
	if n, e := r.Count(0); n != 3 || e != api.OK {
		t.Errorf("Count of a file that is gone: %d, %d", n, e)
	}
}

// A block that is read already is told to its end, whatever becomes of the file.
func TestReadBlockIsTold(t *testing.T) {
	r, s := reopened(t, 1, shape(64, 1, 0), rec(0, "a", ""), rec(0, "b", ""), rec(0, "c", ""), rec(0, "d", long(60)))
	c, _ := r.Scan(0)
	c.Next()
	s.Flip("x", 0, 0xffffffff)
	for _, key := range []string{"b", "c", "d"} {
		if p, some, e := c.Next(); p.Key != key || !some || e != api.OK {
			t.Errorf("record %s: %v, %v, %d", key, p, some, e)
		}
	}
}

// The bytes that are wanted have to be there all, though fewer of them would be a block, too.
func TestShortReading(t *testing.T) {
	tile, raw := plainTile(t, []api.Pair{{Key: "a", Value: "1"}, {Key: "b", Value: "2"}}, 1)
	room := 40
	f := api.Foot{Parts: 1, Infos: []api.PartInfo{{
		Blocks: []api.BlockInfo{{Stored: len(tile) - 5 + room, Raw: raw, Count: 2, Cut: "a"}}, Filter: api.Filter{All: true},
	}}}
	b := plainFile(t, []plainBlock{{tile: append(slices.Clone(tile), make([]byte, room)...)}}, f)
	s := stored(t, b)
	r := opens(t, s, int64(len(b)))
	for _, size := range []int{len(b), len(tile) + room, len(tile) + 1, len(tile), len(tile) - 1, 1, 0} {
		s.Resize("x", int64(size-sizeOf(s, "x")))
		c, e := r.Scan(0)
		holds(t, fmt.Sprintf("a file of %d bytes", size), s, c, e, plainTale{corrupt: true, readings: []int{1}})
	}
}

// A place behind the file's end is no reading at all.
func TestReadingBehindTheEnd(t *testing.T) {
	r, s := reopened(t, 1, shape(64, 1, 0), rec(0, "a", long(60)), rec(0, "b", long(60)))
	c, _ := r.Scan(0)
	c.Next()
	s.Resize("x", -int64(sizeOf(s, "x")))
	before := s.Meter()
	for range 2 {
		if p, some, e := c.Next(); p != (api.Pair{}) || some || e != api.ErrCorrupt {
			t.Errorf("a file that is cut: %v, %v, %d", p, some, e)
		}
	}
	if s.Meter() != before {
		t.Errorf("a place behind the end is read")
	}
}

// 9.8

func TestRound(t *testing.T) {
	random := rand.New(rand.NewSource(98))
	for i := range 250 {
		parts, sh := 1+random.Intn(5), randomShape(random)
		records := randomRecords(random, parts, 10+random.Intn(80))
		r, s := reopened(t, parts, sh, records...)
		b := bytesOf(t, s, "x")
		f, _ := plainOpen(b, int64(len(b)))
		keys := probes(keysOf(records)...)
		if i%10 != 0 { // all of them now and then, some of them always
			random.Shuffle(len(keys), func(i, j int) { keys[i], keys[j] = keys[j], keys[i] })
			keys = keys[:min(len(keys), 8)]
		}
		reads(t, "a spill", s, r, b, f, keys)
		for part := range parts {
			var want []api.Pair
			is := map[string]bool{}
			for _, r := range records {
				if r.Part == part {
					want = append(want, api.Pair{Key: r.Key, Value: r.Value})
					is[r.Key] = true
				}
			}
			c, e := r.Scan(part)
			if got := told(t, c, e); !slices.Equal(got, want) {
				t.Fatalf("Scan(%d) tells other records", part)
			}
			if n, e := r.Count(part); n != int64(len(want)) || e != api.OK {
				t.Fatalf("Count(%d): %d, %d, want %d", part, n, e, len(want))
			}
			for _, key := range keys {
				c, e := r.Seek(part, key)
				from := slices.IndexFunc(want, func(p api.Pair) bool { return p.Key >= key })
				if from < 0 {
					from = len(want)
				}
				if got := told(t, c, e); !slices.Equal(got, want[from:]) {
					t.Fatalf("Seek(%d, %q) tells other records", part, key)
				}
				if has, e := r.Has(part, key); has != is[key] || e != api.OK {
					t.Fatalf("Has(%d, %q): %v, %d", part, key, has, e)
				}
			}
		}
	}
}

// Great blocks, with long keys and values, raw bytes up to MaxBlock.
func TestGreatBlocks(t *testing.T) {
	random := rand.New(rand.NewSource(981))
	noise := func(n int) string {
		b := make([]byte, n)
		random.Read(b)
		return string(b)
	}
	var records []api.Record
	left := 65536 - 8
	add := func(key, value string) {
		records = append(records, rec(0, fmt.Sprintf("%03d", len(records))+key, value))
		left -= plainRaw([]api.Pair{{Key: "000" + key, Value: value}}, 1) - 8
	}
	for left > 2000 {
		add(noise(random.Intn(500)), noise(random.Intn(500)))
	}
	// An entry with a key of 3 bytes and a value of 128 or more has 11 bytes beside the value: so the first block has just 65536 raw bytes.
	add("", noise(left/2-11))
	add("", noise(left-11))
	for range 200 {
		add(noise(random.Intn(1022)), noise(random.Intn(1025)))
	}
	s := store.New()
	w := creates(t, s, 1, shape(65536, 1, 16))
	adds(t, w, records...)
	n := closes(t, w, len(records))
	s.Publish("x")
	r := opens(t, s, n)
	first := r.Foot().Infos[0].Blocks[0]
	if first.Raw != 65536 {
		t.Fatalf("the first block has %d raw bytes", first.Raw)
	}
	c, e := r.Scan(0)
	for i, p := range told(t, c, e) {
		if p != (api.Pair{Key: records[i].Key, Value: records[i].Value}) {
			t.Fatalf("record %d is another one", i)
		}
	}
	if g := s.Meter().Greatest; g != first.Stored+5 || g < 65000 {
		t.Errorf("the greatest reading has %d bytes", g)
	}
}

// Cursors, readers and writers beside each other know nothing of one another.
func TestCursorsAreApart(t *testing.T) {
	random := rand.New(rand.NewSource(982))
	records := randomRecords(random, 3, 120)
	s, n := spilt(t, 3, shape(90, 3, 8), records...)
	b := bytesOf(t, s, "x")
	f, _ := plainOpen(b, n)
	type one struct {
		cursor *Cursor
		want   []api.Pair
	}
	var all []one
	for i := range 40 {
		r := opens(t, s, n)
		for range 3 {
			part, key := random.Intn(3), randomKey(random)
			if i%2 == 0 {
				key = ""
			}
			c, e := r.Seek(part, key)
			if e != api.OK {
				t.Fatalf("Seek: %d", e)
			}
			all = append(all, one{c, plainSeek(b, f, part, key).pairs})
		}
	}
	for len(all) > 0 {
		i := random.Intn(len(all))
		p, some, e := all[i].cursor.Next()
		if len(all[i].want) == 0 {
			if p != (api.Pair{}) || some || e != api.OK {
				t.Fatalf("behind the end: %v, %v, %d", p, some, e)
			}
			all = slices.Delete(all, i, i+1)
			continue
		}
		if p != all[i].want[0] || !some || e != api.OK {
			t.Fatalf("a cursor among others: %v, %v, %d, want %v", p, some, e, all[i].want[0])
		}
		all[i].want = all[i].want[1:]
	}
}
