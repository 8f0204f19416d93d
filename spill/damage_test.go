package spill

import (
	"fmt"
	"math"
	"math/rand"
	"slices"
	"strings"
	"testing"

	"winnow/api"
	"winnow/block"
	"winnow/foot"
	"winnow/store"
)

// 9.10

// sample is a spill whose records are known block by block.
type sample struct {
	parts  int
	blocks []plainBlock
	foot   api.Foot
	bytes  []byte
	tiles  []api.Tile
}

func newSample(t *testing.T, parts int, sh api.Shape, records []api.Record) sample {
	t.Helper()
	s, n := spilt(t, parts, sh, records...)
	d := sample{parts: parts, blocks: plainCut(t, sh, records), bytes: bytesOf(t, s, "x")}
	d.foot = plainFoot(t, parts, sh.Bits, d.blocks)
	d.tiles = foot.Tiles(d.foot)
	if d.tiles[len(d.tiles)-1].To != n {
		t.Fatalf("the tiles end at %d, the spill at %d", d.tiles[len(d.tiles)-1].To, n)
	}
	return d
}

// hit is a burst of turned bits in a tile.
type hit struct {
	tile int
	bit  int64
	mask uint32
}

// burst tells a random one that lies within its tile.
func (d sample) burst(r *rand.Rand, tile int) hit {
	from, to := 8*d.tiles[tile].From, 8*d.tiles[tile].To
	h := hit{tile, from + r.Int63n(to-from), r.Uint32() | 1}
	if room := to - h.bit; room < 32 {
		h.mask &= 1<<room - 1
	}
	return h
}

// damaged holds a spill that was hit against the words of 9.10.
func (d sample) damaged(t *testing.T, hits ...hit) {
	t.Helper()
	s := stored(t, d.bytes)
	n := int64(len(d.bytes))
	hurt := map[int]bool{}
	end := false
	for _, h := range hits {
		s.Flip("x", h.bit, h.mask)
		hurt[h.tile] = true
		end = end || d.tiles[h.tile].Kind != api.TileBlock
	}
	what := fmt.Sprint("hit by ", hits)
	r, e := Open(s, "x", n)
	if end {
		if r != nil || e == api.OK {
			t.Fatalf("%s: Open: %v, %d", what, r, e)
		}
		return
	}
	if r == nil || e != api.OK {
		t.Fatalf("%s: Open: %v, %d", what, r, e)
	}
	for part := range d.parts {
		want := plainTale{}
		readings := 0
		for i, b := range d.blocks {
			if b.part != part || want.corrupt {
				continue
			}
			readings++
			if hurt[i] {
				want.corrupt = true
				continue
			}
			for _, p := range b.pairs {
				want.pairs = append(want.pairs, p)
				want.readings = append(want.readings, readings)
			}
		}
		want.readings = append(want.readings, readings)
		c, e := r.Scan(part)
		holds(t, fmt.Sprintf("%s: Scan(%d)", what, part), s, c, e, want)
	}
	b := bytesOf(t, s, "x")
	reads(t, what, s, r, b, d.foot, []string{"", "a", "b", "aa"})
}

func TestEachBit(t *testing.T) {
	for _, records := range [][]api.Record{
		nil,
		{rec(0, "a", "1"), rec(0, "a", "2"), rec(2, "b", "")},
		{rec(0, "a", long(30)), rec(0, "b", long(30)), rec(1, "a", long(50)), rec(1, "a", ""), rec(1, "b", long(60))},
	} {
		d := newSample(t, 3, shape(64, 2, 8), records)
		for i, tile := range d.tiles {
			for bit := 8 * tile.From; bit < 8*tile.To; bit++ {
				d.damaged(t, hit{i, bit, 1})
			}
		}
	}
}

func TestBursts(t *testing.T) {
	random := rand.New(rand.NewSource(910))
	for range 12 {
		d := newSample(t, 3, randomShape(random), randomRecords(random, 3, 60))
		for i := range d.tiles {
			for range 3 {
				d.damaged(t, d.burst(random, i))
			}
			// The seam of bytes and sum, and both ends of the tile.
			from, to := 8*d.tiles[i].From, 8*d.tiles[i].To
			for _, bit := range []int64{from, to - 32, to - 48} {
				d.damaged(t, hit{i, bit, math.MaxUint32})
			}
		}
		for range 60 {
			var hits []hit
			for _, i := range random.Perm(len(d.tiles))[:random.Intn(len(d.tiles))] {
				if len(hits) == 0 || d.tiles[i].Kind == api.TileBlock || random.Intn(9) == 0 {
					hits = append(hits, d.burst(random, i))
				}
			}
			d.damaged(t, hits...)
		}
	}
}

// All blocks of a spill are hit, and its pages are not.
func TestAllBlocksAreHit(t *testing.T) {
	random := rand.New(rand.NewSource(9101))
	d := newSample(t, 3, shape(64, 2, 8), randomRecords(random, 3, 90))
	var hits []hit
	for i, tile := range d.tiles {
		if tile.Kind == api.TileBlock {
			hits = append(hits, d.burst(random, i))
		}
	}
	if len(hits) < 10 {
		t.Fatalf("%d blocks", len(hits))
	}
	d.damaged(t, hits...)
}

func TestOtherLengths(t *testing.T) {
	random := rand.New(rand.NewSource(9102))
	d := newSample(t, 3, shape(64, 2, 8), randomRecords(random, 3, 30))
	n := int64(len(d.bytes))
	for by := -n; by < 100; by++ {
		s := stored(t, d.bytes)
		s.Resize("x", by)
		if by == 0 {
			opens(t, s, n)
			continue
		}
		if r, e := Open(s, "x", n); r != nil || e != api.ErrLength {
			t.Fatalf("%d bytes more: %v, %d", by, r, e)
		}
		// Of its own length it is refused, too: its trailer is gone, or tells another length.
		if r, e := Open(s, "x", n+by); r != nil || e != api.ErrTrailer {
			t.Fatalf("%d bytes more, and told so: %v, %d", by, r, e)
		}
	}
}

// 9.11

// made is a file made by hand: tiles, and what the footer says of them.
type made struct {
	parts int
	list  []madeBlock
}

type madeBlock struct {
	part int
	tile []byte
	info api.BlockInfo
}

// file tells its bytes and its footer, and whether the footer may be.
func (m made) file() ([]byte, api.Foot, bool) {
	f := api.Foot{Parts: m.parts}
	var b []byte
	for _, one := range m.list {
		n := len(f.Infos) - 1
		if n < 0 || f.Infos[n].Part != one.part {
			f.Infos = append(f.Infos, api.PartInfo{Part: one.part, Filter: api.Filter{All: true}})
			n++
		}
		f.Infos[n].Blocks = append(f.Infos[n].Blocks, one.info)
		b = append(b, one.tile...)
	}
	end, e := foot.Encode(f)
	return append(b, end...), f, e == api.OK
}

// rawBlock tells a block of entries as they are, with what is right to be said of it. Keys may fall, and lengths be too great.
func rawBlock(part int, pairs ...api.Pair) madeBlock {
	raw := plainBytes(pairs, 2)
	return madeBlock{part, seal(append(raw, api.RawFlag)), api.BlockInfo{Stored: len(raw), Raw: len(raw), Count: len(pairs), Cut: short(pairs[0].Key)}}
}

// keyed tells a block of these keys.
func keyed(part int, keys ...string) madeBlock {
	var pairs []api.Pair
	for i, key := range keys {
		pairs = append(pairs, api.Pair{Key: key, Value: fmt.Sprint("v", i)})
	}
	return rawBlock(part, pairs...)
}

// tells opens a file that was made by hand, and holds a scan of its partition 0 against keys, and whether then ErrCorrupt; and all else against the plain readings.
func (m made) tells(t *testing.T, what string, corrupt bool, keys ...string) {
	t.Helper()
	b, f, ok := m.file()
	if !ok {
		t.Fatalf("%s: a footer that may not be", what)
	}
	s := stored(t, b)
	r := opens(t, s, int64(len(b)))
	c, _ := r.Scan(0)
	for _, key := range keys {
		if p, some, e := c.Next(); p.Key != key || !some || e != api.OK {
			t.Errorf("%s: %v, %v, %d, want %q", what, p, some, e, key)
		}
	}
	end := api.OK
	if corrupt {
		end = api.ErrCorrupt
	}
	for range 2 {
		if p, some, e := c.Next(); p != (api.Pair{}) || some || e != end {
			t.Errorf("%s: behind %q: %v, %v, %d, want %d", what, keys, p, some, e, end)
		}
	}
	reads(t, what, s, r, b, f, probes(append(keys, "a", "m", "z")...))
}

func TestMadeFiles(t *testing.T) {
	first, second, third := keyed(0, "a", "b"), keyed(0, "c", "d"), keyed(0, "e", "f")
	whole := func() []madeBlock { return []madeBlock{first, second, third} }
	made{1, whole()}.tells(t, "as it is right", false, "a", "b", "c", "d", "e", "f")
	for place, ahead := range [][]string{{}, {"a", "b"}, {"a", "b", "c", "d"}} {
		for what, spoil := range map[string]func(*madeBlock){
			"a Count of one more":  func(b *madeBlock) { b.info.Count++ },
			"a Count of one less":  func(b *madeBlock) { b.info.Count-- },
			"a Raw of one more":    func(b *madeBlock) { b.info.Raw++ },
			"a Raw of one less":    func(b *madeBlock) { b.info.Raw-- },
			"a Raw of 1":           func(b *madeBlock) { b.info.Raw, b.info.Count = 1, 1 },
			"the greatest Raw":     func(b *madeBlock) { b.info.Raw = 64 * b.info.Stored },
			"a longer Cut":         func(b *madeBlock) { b.info.Cut += "\x00" },
			"a flag that is none":  func(b *madeBlock) { b.tile = seal(append(b.tile[:len(b.tile)-5:len(b.tile)-5], 3)) },
			"another flag":         func(b *madeBlock) { b.tile = seal(append(b.tile[:len(b.tile)-5:len(b.tile)-5], 1)) },
			"zeros":                func(b *madeBlock) { b.tile = make([]byte, len(b.tile)) },
			"zeros with their sum": func(b *madeBlock) { b.tile = seal(make([]byte, len(b.tile)-4)) },
			"one byte of another block's": func(b *madeBlock) {
				b.tile = append(slices.Clone(b.tile[:len(b.tile)-1]), b.tile[len(b.tile)-1]^0x80)
			},
		} {
			m := made{1, whole()}
			spoil(&m.list[place])
			m.tells(t, fmt.Sprintf("%s of block %d", what, place), true, ahead...)
		}
	}
	m := made{1, whole()}
	m.list[0].info.Cut = ""
	m.tells(t, "a shorter Cut", true)
	m = made{1, whole()}
	m.list[1].info.Cut = "b\xff"
	m.tells(t, "a Cut below", true, "a", "b")
	m.list[1].info.Cut = "d"
	m.tells(t, "a Cut above, that of a later key", true, "a", "b")
	m = made{1, whole()}
	m.list[1].info.Stored, m.list[2].info.Stored = m.list[1].info.Stored+1, m.list[2].info.Stored-1
	m.list[1].info.Raw++
	m.list[2].info.Raw--
	m.tells(t, "a seam at another place", true, "a", "b")
}

func TestSeams(t *testing.T) {
	twice := keyed(0, "a", "b")
	made{1, []madeBlock{twice, twice}}.tells(t, "a block twice", true, "a", "b")
	same := keyed(0, "a", "a")
	made{1, []madeBlock{same, same, same}}.tells(t, "a block of alike keys thrice", false, "a", "a", "a", "a", "a", "a")
	made{1, []madeBlock{keyed(0, "a", "m"), keyed(0, "b", "c"), keyed(0, "n")}}.tells(t, "keys that fall over a seam", true, "a", "m")
	made{1, []madeBlock{keyed(0, "a", "b"), keyed(0, "b", "b"), keyed(0, "b\x00")}}.tells(t, "keys that stay over seams", false, "a", "b", "b", "b", "b\x00")
	made{1, []madeBlock{keyed(0, "a"), keyed(0, "b", "m"), keyed(0, "l\xff")}}.tells(t, "keys that fall over the second seam", true, "a", "b", "m")
	made{1, []madeBlock{keyed(0, "a", "z"), keyed(0, "b"), keyed(0, "c")}}.tells(t, "keys that fall over the first seam alone", true, "a", "z")
	made{1, []madeBlock{keyed(0, "a", "b", "a")}}.tells(t, "keys that fall within a block", true)
	made{1, []madeBlock{keyed(0, "a"), keyed(0, "b", "c", "b", "c")}}.tells(t, "keys that fall within the second block", true, "a")
	base := long(64)
	made{1, []madeBlock{keyed(0, base+"b"), keyed(0, base+"a")}}.tells(t, "keys that fall behind alike Cuts", true, base+"b")
	made{1, []madeBlock{keyed(0, base+"a"), keyed(0, base+"b"), keyed(0, base)}}.tells(t, "keys that fall to the Cut itself", true, base+"a", base+"b")
	made{1, []madeBlock{keyed(0, base), keyed(0, base+"a"), keyed(0, base+"a"), keyed(0, base+"b")}}.tells(t, "keys that rise behind alike Cuts", false, base, base+"a", base+"a", base+"b")
	made{2, []madeBlock{keyed(0, "m", "n"), keyed(1, "a", "b")}}.tells(t, "keys that fall to another partition", false, "m", "n")
	made{1, []madeBlock{rawBlock(0, api.Pair{Key: strings.Repeat("a", 1025)})}}.tells(t, "a key of 1025 bytes", true)
	made{1, []madeBlock{rawBlock(0, api.Pair{Key: "a", Value: long(1025)})}}.tells(t, "a value of 1025 bytes", true)
	made{1, []madeBlock{rawBlock(0, api.Pair{Key: long(1024), Value: long(1024)})}}.tells(t, "a key and a value of 1024 bytes", false, long(1024))
}

// A Seek has read no block ahead of that at which it begins: a seam ahead of it is nothing to it, and one behind it is.
func TestSeekOverSeams(t *testing.T) {
	m := made{1, []madeBlock{keyed(0, "a", "z"), keyed(0, "b", "c"), keyed(0, "d")}}
	b, _, _ := m.file()
	r := opens(t, stored(t, b), int64(len(b)))
	for key, row := range map[string]struct {
		keys    []string
		corrupt bool
	}{
		"": {[]string{"a", "z"}, true}, "b": {[]string{"z"}, true}, "c": {[]string{"c", "d"}, false}, "d": {[]string{"d"}, false}, "e": {nil, false},
	} {
		c, _ := r.Seek(0, key)
		for _, want := range row.keys {
			if p, some, e := c.Next(); p.Key != want || !some || e != api.OK {
				t.Errorf("Seek(%s): %v, %v, %d, want %s", key, p, some, e, want)
			}
		}
		if _, some, e := c.Next(); some || e == api.OK == row.corrupt {
			t.Errorf("Seek(%s): at its end %v, %d", key, some, e)
		}
	}
	if has, e := r.Has(0, "b"); has || e != api.OK {
		t.Errorf("Has of a key behind a seam: %v, %d", has, e)
	}
}

// bounded opens a file and goes through one partition, and holds what is read and told against the bounds of 9.11.
func bounded(t *testing.T, what string, b []byte, length int64, part int, key string) {
	t.Helper()
	s := stored(t, b)
	r, e := Open(s, "x", length)
	if m := s.Meter(); m.Bytes > 2*int64(len(b)) || m.Greatest > 65552 {
		t.Fatalf("%s: Open reads %v of %d bytes", what, m, len(b))
	}
	if e != api.OK {
		if r != nil {
			t.Fatalf("%s: a reader beside %d", what, e)
		}
		return
	}
	c, e := r.Seek(part, key)
	if e != api.OK {
		return
	}
	count, _ := r.Count(part)
	last := ""
	for {
		p, some, e := c.Next()
		if !some {
			if e != api.OK && e != api.ErrCorrupt {
				t.Fatalf("%s: Next answers %d", what, e)
			}
			break
		}
		count--
		if count < 0 || p.Key < last || p.Key < key || len(p.Key) > 1024 || len(p.Value) > 1024 {
			t.Fatalf("%s: %.40q behind %.40q, %d records are left", what, p, last, count)
		}
		last = p.Key
	}
	if m := s.Meter(); m.Bytes > 2*int64(len(b))+64 || m.Greatest > 65552 {
		t.Fatalf("%s: Open and a cursor read %v of %d bytes", what, m, len(b))
	}
}

// same holds Open, and all that a reader tells, against the plain readings of any bytes.
func same(t *testing.T, what string, b []byte, length int64, keys []string) {
	t.Helper()
	f, want := plainOpen(b, length)
	s := stored(t, b)
	r, e := Open(s, "x", length)
	if e != want || (r != nil) != (want == api.OK) {
		t.Fatalf("%s: Open: %v, %d, want %d", what, r, e, want)
	}
	if want == api.OK {
		reads(t, what, s, r, b, f, keys)
	}
	for part := -1; part < 4; part++ {
		for _, key := range keys {
			bounded(t, what, b, length, part, key)
		}
	}
}

func TestAnyBytes(t *testing.T) {
	random := rand.New(rand.NewSource(911))
	for size := range 140 {
		for range 6 {
			b := make([]byte, size)
			random.Read(b)
			same(t, "random bytes", b, int64(size), []string{""})
			same(t, "random bytes of another length", b, int64(random.Intn(200)-20), []string{""})
			if size < 24 {
				continue
			}
			// With a trailer that is right as far as it goes.
			pages := random.Intn(size - 23)
			copy(b[size-24:], trailer("wnw1", uint64(size-24-pages), uint64(pages)))
			same(t, "random bytes and a trailer", b, int64(size), []string{""})
			if pages > 4 {
				copy(b[size-24-pages:], seal(b[size-24-pages:size-28]))
				same(t, "a random page", b, int64(size), []string{""})
			}
		}
	}
}

// randomMade tells a file made by hand: blocks out of few keys, often out of order, and now and then something other than is right said of one.
func randomMade(r *rand.Rand) made {
	m := made{parts: 1 + r.Intn(3)}
	for range r.Intn(7) {
		keys := []string{randomKey(r)}
		for range r.Intn(4) {
			keys = append(keys, randomKey(r))
		}
		if r.Intn(12) > 0 {
			slices.Sort(keys)
		}
		m.list = append(m.list, keyed(r.Intn(m.parts), keys...))
	}
	slices.SortStableFunc(m.list, func(a, b madeBlock) int {
		if a.part != b.part {
			return a.part - b.part
		}
		return strings.Compare(a.info.Cut, b.info.Cut)
	})
	for i := range m.list {
		in := &m.list[i].info
		switch r.Intn(20) {
		case 0:
			in.Count += r.Intn(3) - 1
		case 1:
			in.Raw += r.Intn(3) - 1
		case 2:
			in.Cut = short(in.Cut + "a")
		case 3:
			in.Stored += r.Intn(3) - 1
		case 4:
			m.list[i].tile = m.list[r.Intn(len(m.list))].tile
			in.Stored = len(m.list[i].tile) - 5
		}
	}
	return m
}

func TestRandomMadeFiles(t *testing.T) {
	random := rand.New(rand.NewSource(9111))
	opened, whole := 0, 0
	for range 3000 {
		m := randomMade(random)
		b, f, ok := m.file()
		if !ok {
			continue
		}
		opened++
		for _, one := range m.list {
			if tale := plainSeek(b, f, one.part, ""); !tale.corrupt {
				whole++
			}
		}
		var keys []string
		for range 3 {
			keys = append(keys, randomKey(random))
		}
		same(t, "a file made by hand", b, int64(len(b)), append(keys, ""))
		if random.Intn(4) == 0 {
			s := stored(t, b)
			for range 1 + random.Intn(3) {
				s.Flip("x", random.Int63n(int64(8*len(b))), random.Uint32())
			}
			same(t, "a file made by hand, and hit", bytesOf(t, s, "x"), int64(len(b)), keys)
		}
	}
	if opened < 1000 || whole < 1000 {
		t.Errorf("%d files may be opened, %d scans are whole", opened, whole)
	}
}

// The greatest block that may be is read in one reading.
func TestGreatestReading(t *testing.T) {
	var pairs []api.Pair
	for i := range 31 {
		pairs = append(pairs, api.Pair{Key: string([]byte{byte('0' + i)}) + long(1023), Value: long(1024)})
	}
	for _, more := range []int{0, 1} {
		left := 65536 + more - plainRaw(pairs, 1)
		all := append(slices.Clone(pairs), api.Pair{Key: "z" + long(1022), Value: long(left - 4 - 1 - 2 - 2 - 1023)})
		raw := plainBytes(all, 1)
		if len(raw) != 65536+more {
			t.Fatalf("%d raw bytes", len(raw))
		}
		b := madeBlock{0, seal(append(raw, api.RawFlag)), api.BlockInfo{Stored: len(raw), Raw: len(raw), Count: len(all), Cut: short(all[0].Key)}}
		file, _, ok := made{1, []madeBlock{b}}.file()
		if ok != (more == 0) {
			t.Errorf("a block of %d bytes may be: %v", len(raw), ok)
		}
		if !ok {
			continue
		}
		s := stored(t, file)
		c, e := opens(t, s, int64(len(file))).Scan(0)
		if got := told(t, c, e); !slices.Equal(got, all) {
			t.Errorf("the greatest block tells %d records", len(got))
		}
		if g := s.Meter().Greatest; g != 65541 {
			t.Errorf("the greatest reading has %d bytes", g)
		}
	}
}

// Few stored bytes may tell many records with long keys; no more are told than the footer says.
func TestDenseBlock(t *testing.T) {
	b, _ := block.NewBuilder(64, api.MaxBlock)
	n := 0
	for b.Add(long(1024), "") == api.OK {
		n++
	}
	tile, raw, _ := b.Finish()
	m := made{1, []madeBlock{{0, tile, api.BlockInfo{Stored: len(tile) - 5, Raw: raw, Count: n, Cut: long(64)}}}}
	file, _, ok := m.file()
	if !ok {
		t.Fatalf("a dense block may not be")
	}
	bounded(t, "a dense block", file, int64(len(file)), 0, "")
	c, e := opens(t, stored(t, file), int64(len(file))).Scan(0)
	if got := told(t, c, e); len(got) != n {
		t.Errorf("%d records, want %d", len(got), n)
	}
}

// FuzzOpen holds any bytes against the plain readings.
func FuzzOpen(f *testing.F) {
	for _, keys := range [][]string{{"a"}, {"a", "b", "b"}, {long(64), long(65)}} {
		b, _, _ := made{2, []madeBlock{keyed(0, keys...), keyed(1, keys...)}}.file()
		f.Add(b, int64(len(b)), "b")
	}
	s := store.New()
	w, _ := Create(s, "x", 3, shape(64, 2, 8))
	for i := range 9 {
		w.Add(rec(i/4, strings.Repeat("k", i), strings.Repeat("v", 9*i)))
	}
	n, _, _ := w.Close()
	s.Publish("x")
	b, _ := s.Read("x", 0, int(n))
	f.Add(b, n, "kk")
	f.Fuzz(func(t *testing.T, b []byte, length int64, key string) {
		same(t, "fuzzed", b, length, []string{"", key})
		// Sums over whatever stands there, so that more than sums is looked at.
		if n := len(b); n >= 40 {
			c := slices.Clone(b)
			pages := 5 + int(c[n-13])%(n-28)
			copy(c[n-24-pages:], seal(c[n-24-pages:n-28]))
			copy(c[n-24:], trailer("wnw1", uint64(n-24-pages), uint64(pages)))
			same(t, "fuzzed and summed", c, int64(n), []string{"", key})
		}
	})
}
