package block

import (
	"bytes"
	"encoding/hex"
	"fmt"
	"math"
	"math/rand"
	"strings"
	"testing"
	"unsafe"

	"winnow/api"
	"winnow/lz"
)

// exampleRaw are the raw bytes of the document's examples.
const exampleRaw = "\x00\x01\x01a1" + "\x01\x01\x00b" + "\x00\x02\x01ab2" + "\x00\x00\x00\x00\x09\x00\x00\x00" + "\x02\x00\x00\x00\x03\x00\x00\x00"

func exampleEntries() []pair { return []pair{{"a", "1"}, {"ab", ""}, {"ab", "2"}} }

func TestExamplesOfBuilding(t *testing.T) {
	b := filled(t, 2, 64, exampleEntries())
	if e := b.Add("a", "x"); e != api.ErrOrder {
		t.Errorf("Add of a key below: %d", e)
	}
	if b.Size() != 31 || b.Len() != 3 {
		t.Errorf("Size %d, Len %d", b.Size(), b.Len())
	}
	tile, raw, e := b.Finish()
	if raw != 31 || e != api.OK || len(tile) != 34 || tile[29] != 2 {
		t.Errorf("Finish: %x, %d, %d", tile, raw, e)
	}
	if !bytes.Equal(tile, seal(payloads(t, []byte(exampleRaw))[2], 2)) {
		t.Errorf("Finish: %x", tile)
	}
	if tile, raw, e := b.Finish(); len(tile) != 0 || raw != 0 || e != api.ErrArg {
		t.Errorf("Finish again: %x, %d, %d", tile, raw, e)
	}
}

// 6.1

func TestNewBuilder(t *testing.T) {
	for _, restart := range []int{math.MinInt, -64, -1, 0, 1, 2, 63, 64, 65, 66, 1 << 32, math.MaxInt} {
		for _, most := range []int{math.MinInt, -64, 0, 1, 62, 63, 64, 65, 4096, 65535, 65536, 65537, 1 << 32, 1<<32 + 64, math.MaxInt} {
			b, e := NewBuilder(restart, most)
			if restart < 1 || restart > 64 || most < 64 || most > 65536 {
				if b != nil || e != api.ErrArg {
					t.Errorf("NewBuilder(%d, %d): %v, %d", restart, most, b, e)
				}
				continue
			}
			if b == nil || e != api.OK {
				t.Errorf("NewBuilder(%d, %d): %d", restart, most, e)
				continue
			}
			if b.Len() != 0 || b.Size() != 0 {
				t.Errorf("NewBuilder(%d, %d): Len %d, Size %d", restart, most, b.Len(), b.Size())
			}
			if _, _, e := b.Finish(); e != api.ErrArg {
				t.Errorf("NewBuilder(%d, %d): Finish: %d", restart, most, e)
			}
		}
	}
}

func TestBuildersStandAlone(t *testing.T) {
	a, b := builder(t, 2, 64), builder(t, 2, 64)
	a.Add("x", "1")
	if b.Len() != 0 || b.Size() != 0 || b.Add("a", "") != api.OK {
		t.Errorf("a second builder has %d entries", b.Len())
	}
}

// 6.2

func TestAddLengths(t *testing.T) {
	for _, key := range []int{0, 1, 127, 128, 1023, 1024, 1025, 5000} {
		for _, value := range []int{0, 1, 127, 128, 1023, 1024, 1025, 5000} {
			b := builder(t, 2, 64)
			want := api.OK
			if key > 1024 || value > 1024 {
				want = api.ErrLong
			}
			if e := b.Add(strings.Repeat("k", key), strings.Repeat("v", value)); e != want {
				t.Errorf("Add of %d and %d bytes: %d", key, value, e)
			}
			if want == api.OK {
				holdsFinish(t, b, 2, []pair{{strings.Repeat("k", key), strings.Repeat("v", value)}})
			} else if b.Len() != 0 || b.Size() != 0 {
				t.Errorf("Add of %d and %d bytes: Len %d, Size %d", key, value, b.Len(), b.Size())
			}
		}
	}
}

// holdsFinish holds Size, Len and Finish of a builder against its entries, and what Open tells of the tile.
func holdsFinish(t *testing.T, b *Builder, restart int, es []pair) {
	t.Helper()
	want := plainRaw(es, restart)
	if b.Size() != len(want) || b.Len() != len(es) {
		t.Fatalf("Size %d, Len %d, want %d, %d", b.Size(), b.Len(), len(want), len(es))
	}
	tile, raw, e := b.Finish()
	if raw != len(want) || e != api.OK {
		t.Fatalf("Finish: %d, %d, want %d", raw, e, len(want))
	}
	if right := plainTile(t, want); !bytes.Equal(tile, right) {
		t.Fatalf("Finish: %.80x, want %.80x", tile, right)
	}
	if b.Size() != 0 || b.Len() != 0 {
		t.Fatalf("behind Finish: Size %d, Len %d", b.Size(), b.Len())
	}
	r, e := Open(tile, raw)
	if e != api.OK {
		t.Fatalf("Open: %d", e)
	}
	holdsReader(t, r, es)
}

func TestWhichErrorOfAddIsFirst(t *testing.T) {
	long, full := strings.Repeat("a", 1025), strings.Repeat("v", 60)
	var none *Builder
	for _, x := range []struct {
		name       string
		b          *Builder
		key, value string
		want       api.Errno
	}{
		{"nil", none, "a", "", api.ErrNil},
		{"nil, a long key", none, long, "", api.ErrNil},
		{"nil, a long value", none, "a", long, api.ErrNil},
		{"a long key that is below, without room", filled(t, 2, 64, []pair{{"b", full}}), long, "", api.ErrLong},
		{"a long value, of a key that is below, without room", filled(t, 2, 64, []pair{{"b", full}}), "a", long, api.ErrLong},
		{"a long key that is not below, without room", filled(t, 2, 64, []pair{{"a", full}}), long, "", api.ErrLong},
		{"a long value without room", filled(t, 2, 64, []pair{{"a", full}}), "b", long, api.ErrLong},
		{"a key below, without room", filled(t, 2, 64, []pair{{"b", full}}), "a", "", api.ErrOrder},
		{"a key below", filled(t, 2, 64, []pair{{"b", ""}}), "a", "", api.ErrOrder},
		{"the empty key below", filled(t, 2, 64, []pair{{"b", ""}}), "", "", api.ErrOrder},
		{"a beginning of the last key", filled(t, 2, 64, []pair{{"ab", ""}}), "a", "", api.ErrOrder},
		{"below by a high byte", filled(t, 2, 64, []pair{{"\xff", ""}}), "\x7f", "", api.ErrOrder},
		{"below the last, not the first", filled(t, 2, 64, []pair{{"a", ""}, {"c", ""}}), "b", "", api.ErrOrder},
		{"below at a restart", filled(t, 1, 64, []pair{{"a", ""}, {"c", ""}}), "b", "", api.ErrOrder},
		{"an alike key without room", filled(t, 2, 64, []pair{{"b", full}}), "b", "", api.ErrFull},
		{"without room", filled(t, 2, 64, []pair{{"b", full}}), "c", "", api.ErrFull},
		{"an alike key", filled(t, 2, 64, []pair{{"b", ""}}), "b", "", api.OK},
		{"an alike key at a restart", filled(t, 1, 64, []pair{{"b", ""}}), "b", "", api.OK},
		{"an alike empty key", filled(t, 1, 64, []pair{{"", ""}}), "", "", api.OK},
		{"above by a high byte", filled(t, 2, 64, []pair{{"\x7f", ""}}), "\x80", "", api.OK},
		{"longer", filled(t, 2, 64, []pair{{"a", ""}}), "a\x00", "", api.OK},
	} {
		if e := x.b.Add(x.key, x.value); e != x.want {
			t.Errorf("%s: %d, want %d", x.name, e, x.want)
		}
	}
}

func TestARefusedAddChangesNothing(t *testing.T) {
	es := []pair{{"b", "1"}, {"bc", strings.Repeat("v", 20)}, {"bd", "2"}}
	for _, restart := range []int{1, 2, 3, 64} {
		b := builder(t, restart, 70)
		for i, x := range es {
			if e := b.Add(x.key, x.value); e != api.OK {
				t.Fatalf("Add: %d", e)
			}
			size := b.Size()
			for _, wrong := range []struct {
				key, value string
				want       api.Errno
			}{
				{"a", "", api.ErrOrder},
				{"", "x", api.ErrOrder},
				{"z", strings.Repeat("v", 64), api.ErrFull},
				{x.key, strings.Repeat("v", 64), api.ErrFull},
				{strings.Repeat("z", 1025), "", api.ErrLong},
				{"z", strings.Repeat("v", 1025), api.ErrLong},
			} {
				if e := b.Add(wrong.key, wrong.value); e != wrong.want {
					t.Errorf("Add(%.20q, %.20q): %d, want %d", wrong.key, wrong.value, e, wrong.want)
				}
				if b.Size() != size || b.Len() != i+1 {
					t.Errorf("behind a refused Add: Size %d, Len %d", b.Size(), b.Len())
				}
			}
		}
		holdsFinish(t, b, restart, es)
	}
}

func TestTheFirstEntryAlwaysHasRoom(t *testing.T) {
	long := strings.Repeat("k", 1024)
	for _, most := range []int{64, 65, 1000, 2064, 2065, 2066} {
		for _, restart := range []int{1, 2, 64} {
			b := filled(t, restart, most, []pair{{long, long}})
			if b.Size() != 2065 || b.Len() != 1 {
				t.Errorf("Size %d, Len %d", b.Size(), b.Len())
			}
			if e := b.Add(long, ""); e != api.ErrFull {
				t.Errorf("the next of %d: %d", most, e)
			}
			holdsFinish(t, b, restart, []pair{{long, long}})
			if e := b.Add("a", long); e != api.OK {
				t.Errorf("the first one behind Finish: %d", e)
			}
			if e := b.Add("b", ""); e != api.ErrFull && most < 1042 {
				t.Errorf("the next one behind Finish: %d", e)
			}
		}
	}
}

func TestRoomToTheByte(t *testing.T) {
	for _, restart := range []int{1, 2, 3, 64} {
		for ahead := 1; ahead <= 4; ahead++ {
			var es []pair
			for i := range ahead {
				es = append(es, pair{"key" + string(rune('a'+i)), "v"})
			}
			for _, most := range []int{100, 127, 200, 300, 1100} {
				for value := range 1025 {
					last := pair{"keyz", strings.Repeat("v", value)}
					size := len(plainRaw(append(es[:ahead:ahead], last), restart))
					if size < most-2 || size > most+2 {
						continue
					}
					b := filled(t, restart, most, es)
					want := api.OK
					if size > most {
						want = api.ErrFull
					}
					if e := b.Add(last.key, last.value); e != want {
						t.Errorf("restart %d, %d ahead: raw bytes of %d with room for %d: %d", restart, ahead, size, most, e)
					}
				}
			}
		}
	}
}

func TestAFullBlock(t *testing.T) {
	for _, restart := range []int{1, 2, 16, 64} {
		for _, size := range []int{0, 1, 9, 200, 1024} {
			b, next := builder(t, restart, 65536), pair{}
			var es []pair
			for e := api.OK; e == api.OK; {
				next = pair{fmt.Sprintf("%05d", len(es)/3), strings.Repeat(string(rune('a'+len(es)%26)), size)}
				if e = b.Add(next.key, next.value); e == api.OK {
					es = append(es, next)
				}
			}
			if with := len(plainRaw(append(es[:len(es):len(es)], next), restart)); with <= 65536 {
				t.Errorf("restart %d, values of %d bytes: no room for %d raw bytes", restart, size, with)
			}
			holdsFinish(t, b, restart, es)
		}
	}
}

func TestJustMaxBlockRawBytes(t *testing.T) {
	var es []pair
	for i := range 63 {
		es = append(es, pair{fmt.Sprintf("%02d", i), strings.Repeat("v", 1024)})
	}
	size := 65536 - len(plainRaw(es, 64)) - 5 // the numbers of the last entry, and its key
	if size < 128 || size > 1023 {
		t.Fatalf("%d bytes are left", size)
	}
	last := pair{"y", strings.Repeat("u", size)}
	if e := filled(t, 64, 65536, es).Add("y", last.value+"u"); e != api.ErrFull {
		t.Errorf("65537 raw bytes: %d", e)
	}
	if e := filled(t, 64, 65535, es).Add("y", last.value); e != api.ErrFull {
		t.Errorf("65536 raw bytes where 65535 may be: %d", e)
	}
	es = append(es, last)
	b := filled(t, 64, 65536, es)
	if b.Size() != 65536 {
		t.Errorf("Size: %d", b.Size())
	}
	holdsFinish(t, b, 64, es)
	raw := plainRaw(es, 64)
	if r, e := Open(seal(raw, 0), 65536); r.Len() != 64 || e != api.OK {
		t.Errorf("Open of 65536 raw bytes: %d", e)
	}
	es[63].value += "u"
	if r, e := Open(seal(plainRaw(es, 64), 0), 65537); r != nil || e != api.ErrArg {
		t.Errorf("Open of 65537 raw bytes: %d", e)
	}
}

// 6.3

func TestANilBuilder(t *testing.T) {
	var b *Builder
	if b.Size() != 0 || b.Len() != 0 {
		t.Errorf("Size %d, Len %d", b.Size(), b.Len())
	}
	if e := b.Add("", ""); e != api.ErrNil {
		t.Errorf("Add: %d", e)
	}
	if tile, raw, e := b.Finish(); len(tile) != 0 || raw != 0 || e != api.ErrNil {
		t.Errorf("Finish: %x, %d, %d", tile, raw, e)
	}
}

func TestSizeAndLenGoOn(t *testing.T) {
	r := rand.New(rand.NewSource(1))
	for restart := 1; restart <= 64; restart++ {
		b, es := builder(t, restart, 65536), someEntries(r, 150, 6)
		for i, x := range es {
			b.Add(x.key, x.value)
			if want := len(plainRaw(es[:i+1], restart)); b.Size() != want || b.Len() != i+1 {
				t.Fatalf("restart %d: Size %d, Len %d, want %d, %d", restart, b.Size(), b.Len(), want, i+1)
			}
		}
		holdsFinish(t, b, restart, es)
	}
}

// 6.4

func TestFinishBeginsAnew(t *testing.T) {
	for _, restart := range []int{1, 2, 64} {
		b := filled(t, restart, 100, []pair{{"m", "1"}, {"n", "2"}, {"n", "3"}})
		holdsFinish(t, b, restart, []pair{{"m", "1"}, {"n", "2"}, {"n", "3"}})
		for _, x := range []pair{{"a", "1"}, {"ab", "2"}} { // below the last one, and at a restart anew
			if e := b.Add(x.key, x.value); e != api.OK {
				t.Errorf("Add(%q) behind Finish: %d", x.key, e)
			}
		}
		if e := b.Add("aa", ""); e != api.ErrOrder {
			t.Errorf("Add of a key below, behind Finish: %d", e)
		}
		if e := b.Add("z", strings.Repeat("v", 100)); e != api.ErrFull {
			t.Errorf("Add without room, behind Finish: %d", e)
		}
		holdsFinish(t, b, restart, []pair{{"a", "1"}, {"ab", "2"}})
	}
}

func TestFinishTakesTheShortest(t *testing.T) {
	r := rand.New(rand.NewSource(2))
	seen := map[string]int{}
	for i := range 6000 {
		es := someEntries(r, 1+r.Intn(12), 1+r.Intn(6))
		restart := 1 + r.Intn(4)
		raw := plainRaw(es, restart)
		three := payloads(t, raw)
		seen[kindOf(three)]++
		if i < 500 || seen[kindOf(three)] < 20 {
			holdsFinish(t, filled(t, restart, 65536, es), restart, es)
		}
	}
	var wild []pair
	for i := range 60 { // bytes of which no code makes fewer
		wild = append(wild, pair{string([]byte{byte(4 * i)}), string([]byte{byte(4*i + 1), byte(251 * i), byte(4*i + 2), byte(101 * i), byte(4*i + 3)})})
	}
	holdsFinish(t, filled(t, 64, 65536, wild), 64, wild)
	seen[kindOf(payloads(t, plainRaw(wild, 64)))]++
	for _, kind := range []string{"raw", "lz", "huff", "raw and lz", "raw and huff", "lz and huff"} {
		if seen[kind] == 0 {
			t.Errorf("no entries of which %s tell the fewest bytes: %v", kind, seen)
		}
	}
}

// kindOf tells which of the payloads are the shortest.
func kindOf(three [3][]byte) string {
	least := min(len(three[0]), len(three[1]), len(three[2]))
	var names []string
	for flag, name := range []string{"raw", "lz", "huff"} {
		if len(three[flag]) == least {
			names = append(names, name)
		}
	}
	return strings.Join(names, " and ")
}

// waves are entries that lz tells in about a 64th: empty keys, and values that go on like an entry's numbers.
func waves(n, size int) []pair {
	value := strings.Repeat(string([]byte{0, 0, byte(size)&127 | 128, byte(size >> 7)}), size/4)
	es := make([]pair, n)
	for i := range es {
		es[i].value = value
	}
	return es
}

func TestRatio(t *testing.T) {
	for _, x := range []struct {
		n, size int
		spare   int // bytes above raw / 64, times 64
		flag    byte
	}{
		{63, 968, 0, 1},
		{61, 896, 0, 1},
		{63, 964, -4, 2},
		{61, 964, -52, 2},
		{58, 1000, -4, 2},
		{55, 1008, 8, 1},
	} {
		es := waves(x.n, x.size)
		raw := plainRaw(es, x.n)
		three := payloads(t, raw)
		if 64*len(three[1])-len(raw) != x.spare {
			t.Fatalf("%d times %d: lz tells %d raw bytes in %d", x.n, x.size, len(raw), len(three[1]))
		}
		tile, size, e := filled(t, x.n, 65536, es).Finish()
		if size != len(raw) || e != api.OK || !bytes.Equal(tile, seal(three[x.flag], x.flag)) {
			t.Errorf("%d times %d: the flag %d, %d bytes, %d, %d", x.n, x.size, tile[len(tile)-5], len(tile), size, e)
		}
		r, e := Open(tile, size)
		if e != api.OK {
			t.Fatalf("Open: %d", e)
		}
		holdsReader(t, r, es)
		want := api.OK
		if x.spare < 0 {
			want = api.ErrBlock
		}
		if back, e := lz.Decode(three[1], len(raw)); e != api.OK || !bytes.Equal(back, raw) {
			t.Fatalf("lz.Decode: %d", e)
		}
		if r, e := Open(seal(three[1], 1), len(raw)); e != want || (r == nil) != (want != api.OK) {
			t.Errorf("Open of %d raw bytes that lz tells in %d: %d", len(raw), len(three[1]), e)
		}
	}
}

// All promises of building by their words

func TestRowsOfCalls(t *testing.T) {
	r := rand.New(rand.NewSource(3))
	for range 400 {
		restart, most := 1+r.Intn(8), 64+r.Intn(200)
		if r.Intn(4) == 0 {
			restart, most = 1+r.Intn(64), 64+r.Intn(65473)
		}
		p, b := &plain{restart: restart, most: most}, builder(t, restart, most)
		kinds := 1 + r.Intn(7)
		key := ""
		for range 60 {
			if r.Intn(3) > 0 { // most keys are not below the last one
				key += letters(r, r.Intn(2), kinds)
			} else {
				key = letters(r, r.Intn(5), kinds)
			}
			value := letters(r, r.Intn(10), 7)
			if r.Intn(20) == 0 {
				value = strings.Repeat("v", r.Intn(1030))
			}
			if got, want := b.Add(key, value), p.Add(key, value); got != want {
				t.Fatalf("restart %d, most %d, %q: Add(%q, %q): %d, want %d", restart, most, p.es, key, value, got, want)
			}
			if b.Size() != p.Size() || b.Len() != len(p.es) {
				t.Fatalf("restart %d, most %d, %q: Size %d, Len %d", restart, most, p.es, b.Size(), b.Len())
			}
			if len(p.es) > 0 && r.Intn(12) == 0 {
				holdsFinish(t, b, restart, p.es)
				p.es, key = nil, ""
			}
		}
	}
}

// lists gives all lists of up to so many entries, with keys that do not fall.
func lists(most int, give func(es []pair)) {
	keys := []string{"", "a", "aa", "ab", "b"}
	var grow func(es []pair, from int)
	grow = func(es []pair, from int) {
		give(es)
		if len(es) == most {
			return
		}
		for i := from; i < len(keys); i++ {
			for _, value := range []string{"", "a", "\x00"} {
				grow(append(es[:len(es):len(es)], pair{keys[i], value}), i)
			}
		}
	}
	grow(nil, 0)
}

func TestAllShortListsHaveRawBytesOfTheirOwn(t *testing.T) {
	owner := map[string]string{}
	lists(4, func(es []pair) {
		for _, restart := range []int{1, 2, 3, 64} {
			if len(es) == 0 {
				continue
			}
			tile, size, e := filled(t, restart, 65536, es).Finish()
			if e != api.OK || !bytes.Equal(tile, plainTile(t, plainRaw(es, restart))) {
				t.Fatalf("%q, restart %d: %x, %d", es, restart, tile, e)
			}
			r, e := Open(tile, size)
			if e != api.OK {
				t.Fatalf("%q, restart %d: Open: %d", es, restart, e)
			}
			holdsReader(t, r, es)
			name := fmt.Sprintf("%q %d", es, restart)
			if other, ok := owner[string(tile)]; ok {
				t.Fatalf("%s and %s have the tile %x", name, other, tile)
			}
			owner[string(tile)] = name
		}
	})
	if len(owner) < 4000 {
		t.Errorf("%d lists", len(owner))
	}
}

// 6.7

func TestWhatIsAddedIsNotKept(t *testing.T) {
	key, value := []byte("abcd"), []byte("wxyz")
	keyText, valueText := unsafe.String(&key[0], 4), unsafe.String(&value[0], 4)
	b := filled(t, 2, 200, []pair{{keyText, valueText}})
	copy(key, "aazz")
	copy(value, "0000")
	if e := b.Add("abcc", ""); e != api.ErrOrder {
		t.Errorf("a key below the one that was added: %d", e)
	}
	if e := b.Add("abce", "1"); e != api.OK {
		t.Errorf("a key above the one that was added: %d", e)
	}
	holdsFinish(t, b, 2, []pair{{"abcd", "wxyz"}, {"abce", "1"}})
}

func TestATileIsNewMemory(t *testing.T) {
	wild := []pair{{"\x01\x99", "\x23\x45\x67\x89\xab\xcd\xef\x10\x32\x54\x76\x98\xba\xdc\xfe"}} // stays as it is
	for _, es := range [][]pair{exampleEntries(), wild, waves(20, 400)} {
		b := filled(t, 2, 65536, es)
		first, size, _ := b.Finish()
		kept := hex.EncodeToString(first)
		for _, x := range es {
			b.Add(x.key, x.value)
		}
		for i := range first {
			first[i] ^= 0xff
		}
		_ = append(first, 1, 2, 3, 4, 5, 6, 7, 8)
		if b.Size() != size {
			t.Errorf("Size: %d, want %d", b.Size(), size)
		}
		second, _, _ := b.Finish()
		if hex.EncodeToString(second) != kept {
			t.Errorf("a tile shows what was done to the one ahead: %.80x, want %.80s", second, kept)
		}
		b.Add("zz", "zz")
		b.Finish()
		if hex.EncodeToString(second) != kept {
			t.Errorf("a tile shows what was done to its builder: %.80x, want %.80s", second, kept)
		}
	}
}
