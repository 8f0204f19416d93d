package foot

import (
	"bytes"
	"math"
	"math/rand"
	"slices"
	"strings"
	"testing"

	"winnow/api"
)

func TestExamples(t *testing.T) {
	b, e := Encode(example())
	want := append(seal([]byte("\x03\x01\x01\x01\xff\x01\x14\x1e\x02\x00\x01\x61")), trailerWith("wnw1", 25, 16)...)
	if e != api.OK || !bytes.Equal(b, want) {
		t.Errorf("example 1: %x, %d, want %x", b, e, want)
	}
	if tr, e := Trailer(b[16:], 65); e != api.OK || tr != (api.Trail{Blocks: 25, Pages: 16}) {
		t.Errorf("example 1: Trailer: %v, %d", tr, e)
	}
	if l := Tiles(example()); !slices.Equal(l, []api.Tile{{Kind: api.TileBlock, From: 0, To: 25}, {Kind: api.TilePage, From: 25, To: 41}, {Kind: api.TileTrail, From: 41, To: 65}}) {
		t.Errorf("example 1: Tiles: %v", l)
	}
	b, e = Encode(api.Foot{Parts: 1})
	if want := append(seal([]byte{1, 0}), trailerWith("wnw1", 0, 6)...); e != api.OK || len(b) != 30 || !bytes.Equal(b, want) {
		t.Errorf("example 2: %x, %d", b, e)
	}
	if e := Check(one(1, info(0, block(1, 1, 1, "a"), block(1, 1, 1, "a")))); e != api.OK {
		t.Errorf("example 3: Cuts a, a: %d", e)
	}
	for i, f := range []api.Foot{
		{Parts: 0}, one(1, info(0)), {Parts: 3, Infos: []api.PartInfo{info(2, many(1)...), info(1, many(1)...)}},
		one(1, info(0, block(1, 65, 1, ""))), one(1, info(0, block(1, 1, 1, "b"), block(1, 1, 1, "a"))),
	} {
		if e := Check(f); e != api.ErrFoot {
			t.Errorf("example 3: footer %d: %d", i, e)
		}
	}
	if tr, e := Trailer(b[7:], 30); e != api.ErrTrailer || tr != (api.Trail{}) {
		t.Errorf("example 4: 23 bytes: %v, %d", tr, e)
	}
	if tr, e := Trailer(b[6:], 31); e != api.ErrLength || tr != (api.Trail{}) {
		t.Errorf("example 4: a size one more: %v, %d", tr, e)
	}
	f := one(3, info(1, cuts("b", "d", "d", "f")...))
	for key, want := range map[string]int{"d": 0, "e": 2, "a": 0, "z": 3} {
		if i, at := Find(f, 1, key); i != 0 || at != want {
			t.Errorf("example 5: Find of %s: %d, %d", key, i, at)
		}
	}
	if i, at := Find(f, 2, "d"); i != -1 || at != 0 {
		t.Errorf("example 5: Find without records: %d, %d", i, at)
	}
}

// 8.1

// checks holds Check against what the footer is to be, and against the plain one; and what is not right is refused by Encode and has no tiles.
func checks(t *testing.T, what string, f api.Foot, right bool) {
	t.Helper()
	if plainCheck(f) != right {
		t.Fatalf("%s: the plain reading says %v", what, !right)
	}
	want := api.ErrFoot
	if right {
		want = api.OK
	}
	if e := Check(f); e != want {
		t.Errorf("Check of %s: %d, want %d", what, e, want)
	}
	if right {
		return
	}
	if b, e := Encode(f); len(b) != 0 || e != api.ErrFoot {
		t.Errorf("Encode of %s: %d bytes, %d", what, len(b), e)
	}
	if l := Tiles(f); len(l) != 0 {
		t.Errorf("Tiles of %s: %d", what, len(l))
	}
}

func TestCheckParts(t *testing.T) {
	for parts, right := range map[int]bool{
		math.MinInt: false, -65535: false, -1: false, 0: false, 1: true, 2: true, 65534: true, 65535: true, 65536: false, 65537: false, 1<<32 + 1: false, math.MaxInt: false,
	} {
		checks(t, "Parts alone", api.Foot{Parts: parts}, right)
	}
}

func TestCheckInfosParts(t *testing.T) {
	for _, row := range []struct {
		parts int
		list  []int
		right bool
	}{
		{1, []int{0}, true}, {1, []int{1}, false}, {1, []int{-1}, false}, {1, []int{0, 1}, false}, {1, []int{0, 0}, false},
		{3, []int{0, 1, 2}, true}, {3, []int{0, 2}, true}, {3, []int{2}, true}, {3, []int{1, 2}, true},
		{3, []int{0, 1, 3}, false}, {3, []int{3}, false}, {3, []int{0, 1, 2, 3}, false},
		{3, []int{0, 1, 1}, false}, {3, []int{1, 1}, false}, {3, []int{0, 2, 1}, false}, {3, []int{2, 1}, false}, {3, []int{1, 0}, false}, {3, []int{1, 2, 0}, false},
		{3, []int{-1, 0}, false}, {3, []int{-1}, false}, {3, []int{-2}, false}, {3, []int{0, -1}, false}, {3, []int{math.MinInt}, false}, {3, []int{math.MaxInt}, false}, {3, []int{0, 1 << 32}, false},
		{65535, []int{65534}, true}, {65535, []int{65535}, false}, {65535, []int{0, 65534}, true}, {65535, []int{65533, 65534}, true}, {65535, []int{65534, 65535}, false},
	} {
		f := api.Foot{Parts: row.parts}
		for _, part := range row.list {
			f.Infos = append(f.Infos, info(part, block(1, 1, 1, "")))
		}
		checks(t, "some Parts", f, row.right)
	}
	all := api.Foot{Parts: 65535}
	for part := range 65535 {
		all.Infos = append(all.Infos, info(part, block(1, 1, 1, "")))
	}
	checks(t, "all partitions", all, true)
	all.Infos[65534].Part = 65535
	checks(t, "all partitions and one more", all, false)
}

func TestCheckBlocksCount(t *testing.T) {
	checks(t, "no blocks", one(1, info(0)), false)
	checks(t, "no blocks in the first", api.Foot{Parts: 2, Infos: []api.PartInfo{info(0), info(1, many(1)...)}}, false)
	checks(t, "no blocks in the last", api.Foot{Parts: 2, Infos: []api.PartInfo{info(0, many(1)...), info(1)}}, false)
	const most = 1 << 18
	for _, row := range []struct {
		list  []int
		right bool
	}{
		{[]int{most - 1}, true}, {[]int{most}, true}, {[]int{most + 1}, false}, {[]int{2 * most}, false},
		{[]int{most - 1, 1}, true}, {[]int{1, most - 1}, true}, {[]int{most, 1}, false}, {[]int{1, most}, false},
		{[]int{most / 2, most / 2}, true}, {[]int{most / 2, most / 2, 1}, false}, {[]int{most/2 + 1, most / 2}, false}, {[]int{most, most}, false},
	} {
		f := api.Foot{Parts: 3}
		for i, n := range row.list {
			f.Infos = append(f.Infos, info(i, many(n)...))
		}
		checks(t, "many blocks", f, row.right)
	}
}

func TestCheckFilter(t *testing.T) {
	for _, row := range []struct {
		filter api.Filter
		right  bool
	}{
		{api.Filter{}, true}, {api.Filter{All: true}, true}, {api.Filter{Data: []byte{}}, true},
		{api.Filter{Hashes: 1, Data: []byte{0}}, true}, {api.Filter{Hashes: 8, Data: data(4096)}, true},
		{api.Filter{Hashes: 9, Data: []byte{0}}, false}, {api.Filter{Hashes: -1, Data: []byte{0}}, false}, {api.Filter{Hashes: 1}, false}, {api.Filter{Data: []byte{0}}, false},
		{api.Filter{Hashes: 8, Data: data(4097)}, false}, {api.Filter{All: true, Hashes: 1}, false}, {api.Filter{All: true, Data: []byte{0}}, false}, {api.Filter{All: true, Hashes: 1, Data: []byte{0}}, false},
		{api.Filter{Hashes: 1<<32 + 1, Data: []byte{0}}, false}, {api.Filter{Hashes: 256 + 1, Data: []byte{0}}, false},
	} {
		i := api.PartInfo{Part: 1, Blocks: many(1), Filter: row.filter}
		checks(t, "a filter", one(2, i), row.right)
		checks(t, "a filter behind another", api.Foot{Parts: 3, Infos: []api.PartInfo{info(0, many(2)...), i}}, row.right)
		checks(t, "a filter ahead of another", api.Foot{Parts: 3, Infos: []api.PartInfo{i, info(2, many(2)...)}}, row.right)
	}
}

// checksBlock holds a block alone, as the last one, as the one in the middle, and in the last Info.
func checksBlock(t *testing.T, b api.BlockInfo, right bool) {
	t.Helper()
	last := block(1, 1, 1, b.Cut)
	checks(t, "a block", one(2, info(1, b)), right)
	checks(t, "a last block", one(2, info(1, block(1, 1, 1, ""), b)), right)
	checks(t, "a last block of a last Info", api.Foot{Parts: 2, Infos: []api.PartInfo{info(0, many(1)...), info(1, block(1, 1, 1, ""), b)}}, right)
	if len(last.Cut) <= 64 {
		checks(t, "a first block", one(2, info(1, b, last)), right)
		checks(t, "a first Info's block", api.Foot{Parts: 2, Infos: []api.PartInfo{info(0, b), info(1, many(1)...)}}, right)
	}
}

func TestCheckBlockNumbers(t *testing.T) {
	numbers := []int{math.MinInt, -65536, -64, -1, 0, 1, 2, 63, 64, 65, 128, 129, 1023, 1024, 1025, 65535, 65536, 65537, 1 << 32, 1<<32 + 1, 1 << 58, 1<<58 + 1, math.MaxInt}
	for _, stored := range numbers {
		for _, raw := range append([]int{64*stored - 1, 64 * stored, 64*stored + 1}, numbers...) {
			for _, count := range append([]int{raw - 1, raw, raw + 1}, numbers...) {
				b := block(stored, raw, count, "")
				f := one(1, info(0, b))
				right := plainCheck(f)
				if want := Check(f) == api.OK; want != right {
					t.Fatalf("Check of %v: %v", b, want)
				}
			}
		}
	}
	for _, row := range []struct {
		stored, raw, count int
		right              bool
	}{
		{1, 1, 1, true}, {0, 1, 1, false}, {-1, 1, 1, false}, {65535, 1, 1, true}, {65536, 1, 1, true}, {65537, 1, 1, false}, {math.MaxInt, 1, 1, false}, {1<<58 + 1, 64, 1, false},
		{1, 0, 1, false}, {1, -1, 1, false}, {1, 0, 0, false}, {1, -1, -1, false}, {65536, 65536, 1, true}, {65536, 65537, 1, false}, {1024, 65536, 1, true}, {1025, 65537, 1, false}, {1023, 65536, 1, false},
		{1, 63, 1, true}, {1, 64, 1, true}, {1, 65, 1, false}, {2, 128, 1, true}, {2, 129, 1, false}, {1000, 64000, 1, true}, {1000, 64001, 1, false},
		{1, 1, 0, false}, {1, 1, -1, false}, {1, 1, 2, false}, {1, 64, 64, true}, {1, 64, 65, false}, {65536, 65536, 65536, true}, {65536, 65536, 65537, false}, {65536, 65535, 65536, false}, {1, 64, math.MaxInt, false},
	} {
		checksBlock(t, block(row.stored, row.raw, row.count, "x"), row.right)
	}
}

func TestCheckCuts(t *testing.T) {
	for n, right := range map[int]bool{0: true, 1: true, 63: true, 64: true, 65: false, 66: false, 128: false, 1024: false, 65536: false} {
		checksBlock(t, block(1, 1, 1, strings.Repeat("x", n)), right)
	}
	k := strings.Repeat("k", 63)
	for _, row := range []struct {
		cuts  []string
		right bool
	}{
		{[]string{"a", "b"}, true}, {[]string{"a", "a"}, true}, {[]string{"b", "a"}, false}, {[]string{"", "a"}, true}, {[]string{"a", ""}, false}, {[]string{"", ""}, true},
		{[]string{"a", "ab"}, true}, {[]string{"ab", "a"}, false}, {[]string{"ab", "b"}, true}, {[]string{"b", "ab"}, false},
		{[]string{"a", "\xff"}, true}, {[]string{"\xff", "a"}, false}, {[]string{"\x80", "\x7f"}, false}, {[]string{"\x7f", "\x80"}, true}, {[]string{"\x00", ""}, false}, {[]string{"ÿ", "\xff"}, true},
		{[]string{"a", "c", "b"}, false}, {[]string{"a", "c", "c", "b"}, false}, {[]string{"b", "a", "c"}, false}, {[]string{"a", "b", "c", "c", "d"}, true}, {[]string{"a", "b", "c", "c", "a"}, false},
		{[]string{k + "a", k + "b"}, true}, {[]string{k + "b", k + "a"}, false}, {[]string{k, k + "a"}, true}, {[]string{k + "a", k}, false}, {[]string{k + "a", k + "a"}, true},
	} {
		checks(t, "some Cuts", one(1, info(0, cuts(row.cuts...)...)), row.right)
		both := api.Foot{Parts: 5, Infos: []api.PartInfo{info(2, cuts("z")...), info(3, cuts(row.cuts...)...), info(4, cuts("")...)}}
		checks(t, "Cuts that fall over two partitions, and some", both, row.right)
	}
	apart := api.Foot{Parts: 2, Infos: []api.PartInfo{info(0, cuts("b")...), info(1, cuts("a")...)}}
	checks(t, "Cuts that fall over two partitions", apart, true)
}

// spoilt changes a right footer at one place.
func spoilt(r *rand.Rand, f api.Foot) api.Foot {
	f = copied(f)
	numbers := []int{-1, 0, 1, 2, 63, 64, 65, 65534, 65535, 65536, 65537, math.MinInt, math.MaxInt}
	n := numbers[r.Intn(len(numbers))]
	if r.Intn(10) == 0 || len(f.Infos) == 0 {
		f.Parts = n
		return f
	}
	i := &f.Infos[r.Intn(len(f.Infos))]
	b := &i.Blocks[r.Intn(len(i.Blocks))]
	switch r.Intn(9) {
	case 0:
		i.Part = n
	case 1:
		i.Part += r.Intn(3) - 1
	case 2:
		i.Filter.Hashes += r.Intn(3) - 1
	case 3:
		b.Stored = n
	case 4:
		b.Raw = n
	case 5:
		b.Count = n
	case 6:
		b.Cut = randomCuts(r, 1)[0] + strings.Repeat("z", r.Intn(2))
	case 7:
		b.Count = b.Raw + r.Intn(2)
	case 8:
		b.Raw = 64*b.Stored + r.Intn(2)
	}
	return f
}

func TestCheckRandom(t *testing.T) {
	r := rand.New(rand.NewSource(81))
	counts := [2]int{}
	for range 20000 {
		f := randomFoot(r)
		checks(t, "a random footer", f, true)
		f = spoilt(r, f)
		right := plainCheck(f)
		checks(t, "a spoilt footer", f, right)
		if right {
			counts[0]++
		} else {
			counts[1]++
		}
	}
	if counts[0] < 1000 || counts[1] < 1000 {
		t.Errorf("right and not right: %v", counts)
	}
}

// 8.2

// holdsEncode holds Encode against the plain one.
func holdsEncode(t *testing.T, f api.Foot) {
	t.Helper()
	b, e := Encode(f)
	want, wantE := plainEncode(f)
	if e != wantE || !bytes.Equal(b, want) {
		t.Fatalf("Encode of %d Infos: %d bytes (%.60x), %d, want %d (%.60x), %d", len(f.Infos), len(b), b, e, len(want), want, wantE)
	}
}

func TestEncode(t *testing.T) {
	for _, f := range small() {
		checks(t, "a small footer", f, true)
		holdsEncode(t, f)
	}
	r := rand.New(rand.NewSource(82))
	for range 3000 {
		f := randomFoot(r)
		holdsEncode(t, f)
		holdsEncode(t, spoilt(r, f))
	}
}

func TestEncodeBytes(t *testing.T) {
	f := api.Foot{Parts: 300, Infos: []api.PartInfo{
		{Part: 1, Blocks: []api.BlockInfo{block(200, 300, 150, "abc"), block(1, 64, 64, "abd"), block(1, 1, 1, "abd"), block(2, 3, 1, "b")}, Filter: api.Filter{Hashes: 2, Data: []byte{7, 8}}},
		{Part: 2, Blocks: []api.BlockInfo{block(1, 1, 1, "bb")}},
		{Part: 299, Blocks: []api.BlockInfo{block(65536, 65536, 65536, "bb")}, Filter: api.Filter{All: true}},
	}}
	body := "\xac\x02\x03" +
		"\x01" + "\x04\x02\x02\x07\x08" + "\x04" +
		"\xc8\x01" + "\xac\x02" + "\x96\x01" + "\x00" + "\x03abc" + "\x01\x40\x40" + "\x02" + "\x01d" + "\x01\x01\x01" + "\x03" + "\x00" + "\x02\x03\x01" + "\x00" + "\x01b" +
		"\x00" + "\x01\x00" + "\x01" + "\x01\x01\x01" + "\x00" + "\x02bb" +
		"\xa8\x02" + "\x01\xff" + "\x01" + "\x80\x80\x04\x80\x80\x04\x80\x80\x04" + "\x00" + "\x02bb"
	want := append(seal([]byte(body)), trailerWith("wnw1", 205+6+6+7+6+65541, uint64(len(body)+4))...)
	if b, e := Encode(f); e != api.OK || !bytes.Equal(b, want) {
		t.Errorf("Encode: %x, %d, want %x", b, e, want)
	}
}

func TestEncodePages(t *testing.T) {
	for _, n := range []int{13, 14, 127, 128, 4094, 4095, 4096, 4097, 4098, 4099, 4100, 4101, 4104, 4105, 8191, 8192, 8193, 12287, 12288, 12289, 65535, 65536, 65537} {
		f := footOfBody(t, n)
		if len(plainBody(f)) != n {
			t.Fatalf("a body of %d bytes", n)
		}
		holdsEncode(t, f)
		b, e := Encode(f)
		if want := n + 4*((n+4095)/4096) + 24; e != api.OK || len(b) != want {
			t.Errorf("Encode of a body of %d bytes: %d bytes, %d, want %d", n, len(b), e, want)
		}
	}
}

func TestEncodeFullBody(t *testing.T) {
	for n, want := range map[int]api.Errno{1<<24 - 1: api.OK, 1 << 24: api.OK, 1<<24 + 1: api.ErrFull, 1<<24 + 2: api.ErrFull, 1<<24 + 70000: api.ErrFull} {
		f := footOfBody(t, n)
		checks(t, "a footer with a long body", f, true)
		holdsEncode(t, f)
		b, e := Encode(f)
		if e != want || e != api.OK && len(b) != 0 {
			t.Errorf("Encode of a body of %d bytes: %d bytes, %d, want %d", n, len(b), e, want)
		}
		if l := Tiles(f); !slices.Equal(l, plainTiles(f)) || len(l) == 0 != (want != api.OK) {
			t.Errorf("Tiles with a body of %d bytes: %d", n, len(l))
		}
		// what is not right is told ahead of what is too long
		f.Infos[len(f.Infos)-1].Blocks[0].Count = 0
		checks(t, "a footer that is not right, with a long body", f, false)
	}
}

// A body of many blocks is too long by the texts of its Cuts alone, and one of many filters comes to many times what a body may have.
func TestEncodeFullOtherwise(t *testing.T) {
	cut := func(n int) string {
		return string([]byte{byte(n >> 16), byte(n >> 8), byte(n)}) + strings.Repeat("c", 61)
	}
	var list []api.BlockInfo
	for n := range 1 << 18 {
		list = append(list, block(1000, 1000, 1000, cut(n)))
	}
	holdsEncode(t, one(1, info(0, list...)))
	if b, e := Encode(one(1, info(0, list...))); len(b) != 0 || e != api.ErrFull {
		t.Errorf("Encode of long Cuts: %d bytes, %d", len(b), e)
	}
	all := api.Foot{Parts: 65535}
	bits := api.Filter{Hashes: 8, Data: data(4096)}
	for part := range 65535 {
		all.Infos = append(all.Infos, api.PartInfo{Part: part, Blocks: many(1), Filter: bits})
	}
	if b, e := Encode(all); len(b) != 0 || e != api.ErrFull {
		t.Errorf("Encode of long filters: %d bytes, %d", len(b), e)
	}
	if l := Tiles(all); len(l) != 0 {
		t.Errorf("Tiles of long filters: %d", len(l))
	}
}

// blocksOf tells a right footer whose blocks have just n bytes, n from 2^27 on.
func blocksOf(n int) api.Foot {
	list := slices.Repeat([]api.BlockInfo{block(65531, 1, 1, "")}, n/65536)
	if rest := n % 65536; rest > 5 {
		list = append(list, block(rest-5, 1, 1, ""))
	} else {
		list[len(list)-1].Stored += rest
	}
	return api.Foot{Parts: 2, Infos: []api.PartInfo{info(0, list[:1000]...), info(1, list[1000:]...)}}
}

func TestEncodeFullBlocks(t *testing.T) {
	for n, want := range map[int]api.Errno{1<<28 - 1: api.OK, 1 << 28: api.OK, 1<<28 + 1: api.ErrFull, 1<<28 + 65536: api.ErrFull} {
		f := blocksOf(n)
		if plainBlocks(f) != int64(n) {
			t.Fatalf("blocks of %d bytes: %d", n, plainBlocks(f))
		}
		checks(t, "a footer with great blocks", f, true)
		holdsEncode(t, f)
		b, e := Encode(f)
		if e != want || e != api.OK && len(b) != 0 {
			t.Errorf("Encode of blocks of %d bytes: %d bytes, %d, want %d", n, len(b), e, want)
		}
		if l := Tiles(f); !slices.Equal(l, plainTiles(f)) || len(l) == 0 != (want != api.OK) {
			t.Errorf("Tiles with blocks of %d bytes: %d", n, len(l))
		}
		f.Infos[1].Blocks[0].Raw = 0
		checks(t, "a footer that is not right, with great blocks", f, false)
	}
	// the most blocks, each as great as can be, are beyond what a word of 32 bits tells
	f := one(1, info(0, slices.Repeat([]api.BlockInfo{block(65536, 1, 1, "")}, 1<<18)...))
	if b, e := Encode(f); len(b) != 0 || e != api.ErrFull {
		t.Errorf("Encode of the greatest blocks: %d bytes, %d", len(b), e)
	}
}

// 8.6 and 8.10

func holdsTiles(t *testing.T, f api.Foot) {
	t.Helper()
	got := Tiles(f)
	if !slices.Equal(got, plainTiles(f)) {
		t.Fatalf("Tiles: %v, want %v", got, plainTiles(f))
	}
	if len(got) == 0 {
		return
	}
	pages, trailer, trail := encoded(t, f)
	at := int64(0)
	for _, tile := range got {
		if tile.From != at || tile.To <= at {
			t.Fatalf("Tiles: a tile from %d to %d at %d", tile.From, tile.To, at)
		}
		at = tile.To
		if tile.Kind == api.TilePage {
			page := pages[tile.From-trail.Blocks : tile.To-trail.Blocks]
			if !bytes.Equal(page, seal(page[:len(page)-4])) {
				t.Fatalf("Tiles: a page from %d to %d is none", tile.From, tile.To)
			}
		}
	}
	if told, e := Trailer(trailer, at); e != api.OK || told != trail {
		t.Fatalf("Tiles end at %d: %v, %d", at, told, e)
	}
}

func TestTiles(t *testing.T) {
	for _, f := range small() {
		holdsTiles(t, f)
	}
	for _, n := range []int{4095, 4096, 4097, 8192, 8193, 100000} {
		holdsTiles(t, footOfBody(t, n))
	}
	r := rand.New(rand.NewSource(86))
	for range 2000 {
		f := randomFoot(r)
		holdsTiles(t, f)
		holdsTiles(t, spoilt(r, f))
	}
	f := one(1, info(0, many(1<<18)...))
	holdsTiles(t, f)
	if l := Tiles(f); len(l) != 1<<18+int(plainBodyPages(f))+1 {
		t.Errorf("Tiles of the most blocks: %d", len(l))
	}
	if l := Tiles(api.Foot{}); len(l) != 0 {
		t.Errorf("Tiles of a zero footer: %v", l)
	}
}

// plainBodyPages tells how many pages a footer has.
func plainBodyPages(f api.Foot) (count int64) {
	for left := len(plainBody(f)); left > 0; left -= 4096 {
		count++
	}
	return count
}

// 8.7

func holdsFind(t *testing.T, f api.Foot, part int, key string) {
	t.Helper()
	i, at := Find(f, part, key)
	if wantI, wantAt := plainFind(f, part, key); i != wantI || at != wantAt {
		t.Fatalf("Find of %d, %q: %d, %d, want %d, %d", part, key, i, at, wantI, wantAt)
	}
}

func TestFind(t *testing.T) {
	k := strings.Repeat("k", 64)
	for _, row := range []struct {
		cuts []string
		key  string
		want int
	}{
		{[]string{"b", "d", "d", "f"}, "", 0}, {[]string{"b", "d", "d", "f"}, "a", 0}, {[]string{"b", "d", "d", "f"}, "b", 0}, {[]string{"b", "d", "d", "f"}, "b\x00", 0},
		{[]string{"b", "d", "d", "f"}, "c", 0}, {[]string{"b", "d", "d", "f"}, "d", 0}, {[]string{"b", "d", "d", "f"}, "d\x00", 2}, {[]string{"b", "d", "d", "f"}, "f", 2}, {[]string{"b", "d", "d", "f"}, "fa", 3}, {[]string{"b", "d", "d", "f"}, "\xff", 3},
		{[]string{""}, "", 0}, {[]string{"", ""}, "", 0}, {[]string{"", ""}, "a", 1}, {[]string{"", "", "a"}, "a", 1}, {[]string{"a", "a", "a"}, "a", 0}, {[]string{"a", "a", "a"}, "b", 2},
		{[]string{"a", k, k}, k[:63], 0}, {[]string{"a", k, k}, k, 0}, {[]string{"a", k, k}, k + "a", 0}, {[]string{"a", k, k}, k + strings.Repeat("z", 1000), 0}, {[]string{"a", k, k}, k[:63] + "l", 2}, {[]string{"a", k, k}, k[:63] + "la", 2}, {[]string{"a", k, k}, k[:63] + "j", 0},
		{[]string{k[:63], k, k}, k, 0}, {[]string{k[:63], k, k}, k[:63], 0}, {[]string{k[:62], k[:63], k}, k[:63], 0}, {[]string{k[:62], k[:63], k}, k + "x", 1},
	} {
		f := api.Foot{Parts: 9, Infos: []api.PartInfo{info(2, cuts("c", "x")...), info(5, cuts(row.cuts...)...), info(8, cuts("a")...)}}
		if i, at := Find(f, 5, row.key); i != 1 || at != row.want {
			t.Errorf("Find of %q in %q: %d, %d, want block %d", row.key, row.cuts, i, at, row.want)
		}
		holdsFind(t, f, 5, row.key)
		for part, place := range map[int]int{math.MinInt: -1, -1: -1, 0: -1, 1: -1, 2: 0, 3: -1, 4: -1, 6: -1, 7: -1, 8: 2, 9: -1, 10: -1, 1<<32 + 2: -1, math.MaxInt: -1} {
			i, at := Find(f, part, row.key)
			if i != place || i < 0 && at != 0 {
				t.Errorf("Find of the partition %d: %d, %d", part, i, at)
			}
			holdsFind(t, f, part, row.key)
		}
	}
	if i, at := Find(api.Foot{Parts: 1}, 0, "a"); i != -1 || at != 0 {
		t.Errorf("Find without Infos: %d, %d", i, at)
	}
}

func TestFindRandom(t *testing.T) {
	r := rand.New(rand.NewSource(87))
	for range 3000 {
		f := randomFoot(r)
		for range 20 {
			part, key := r.Intn(f.Parts), randomCuts(r, 1)[0]
			if len(f.Infos) > 0 && r.Intn(4) > 0 {
				i := f.Infos[r.Intn(len(f.Infos))]
				part = i.Part
				if r.Intn(2) == 0 {
					key = i.Blocks[r.Intn(len(i.Blocks))].Cut + strings.Repeat("\x00", r.Intn(3))
				}
			}
			holdsFind(t, f, part, key)
		}
	}
}

// Of a footer that is not right Find ends, whatever it tells.
func TestFindNotRight(t *testing.T) {
	r := rand.New(rand.NewSource(88))
	for _, f := range []api.Foot{{}, one(1, info(0)), one(1, api.PartInfo{}), {Parts: -1, Infos: []api.PartInfo{info(1), info(1), info(0), info(-5)}}} {
		for part := -6; part < 4; part++ {
			Find(f, part, "a")
		}
	}
	for range 3000 {
		f := randomFoot(r)
		r.Shuffle(len(f.Infos), func(i, k int) { f.Infos[i], f.Infos[k] = f.Infos[k], f.Infos[i] })
		for _, i := range f.Infos {
			r.Shuffle(len(i.Blocks), func(a, b int) { i.Blocks[a], i.Blocks[b] = i.Blocks[b], i.Blocks[a] })
		}
		for part := range min(f.Parts, 20) {
			Find(f, part, randomCuts(r, 1)[0])
		}
	}
}

// 8.12

// TestFindLosesNothing cuts sorted keys into blocks, and looks for what is not below a key.
func TestFindLosesNothing(t *testing.T) {
	r := rand.New(rand.NewSource(812))
	long := func() string { // beyond a Cut, so that unlike keys have one Cut
		key := randomCuts(r, 1)[0]
		if r.Intn(2) == 0 {
			key = strings.Repeat("k", 62) + key
		}
		return key
	}
	for range 3000 {
		var keys []string
		for range 1 + r.Intn(30) {
			keys = append(keys, long())
		}
		slices.Sort(keys)
		i := info(3)
		var at []int // the block of each key
		for n, key := range keys {
			if n == 0 || r.Intn(3) == 0 {
				i.Blocks = append(i.Blocks, block(9, 9, 1, key[:min(len(key), 64)]))
			}
			at = append(at, len(i.Blocks)-1)
		}
		f := api.Foot{Parts: 5, Infos: []api.PartInfo{info(0, many(3)...), i}}
		for _, key := range append([]string{"", "\xff", long(), long()}, keys...) {
			place, from := Find(f, 3, key)
			if place != 1 || from < 0 || from >= len(i.Blocks) {
				t.Fatalf("Find: %d, %d of %d", place, from, len(i.Blocks))
			}
			for n := range keys {
				if keys[n] >= key && at[n] < from {
					t.Fatalf("Find of %q: block %d, but %q is in %d", key, from, keys[n], at[n])
				}
			}
		}
	}
}
