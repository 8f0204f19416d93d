package filter

import (
	"bytes"
	"encoding/hex"
	"hash/fnv"
	"math"
	"math/bits"
	"math/rand"
	"slices"
	"strings"
	"testing"
	"unsafe"

	"winnow/api"
)

func TestExamples(t *testing.T) {
	if h, _ := Hash(""); h != 14695981039346656037 {
		t.Errorf("Hash of nothing: %x", h)
	}
	if h, _ := Hash("a"); h != 0xaf63dc4c8601ec8c {
		t.Errorf("Hash of a: %x", h)
	}
	everything, nothing, one := built(t, nil, 8), built(t, []string{"a"}, 0), built(t, []string{"a"}, 8)
	for i, row := range []struct {
		got, want api.Filter
		bytes     string
	}{
		{everything, api.Filter{}, "00"},
		{nothing, api.Filter{All: true}, "ff"},
		{one, api.Filter{Hashes: 6, Data: []byte{0x9f}}, "06019f"},
	} {
		if !alike(row.got, row.want) {
			t.Errorf("example %d: %s", i, told(row.got))
		}
		if b, e := Encode(row.got); hex.EncodeToString(b) != row.bytes || e != api.OK {
			t.Errorf("Encode of example %d: %x, %d", i, b, e)
		}
		if f, e := Join(everything, row.got); !alike(f, row.want) || e != api.OK {
			t.Errorf("Join of example %d: %s, %d", i, told(f), e)
		}
	}
	if f, e := Build([]string{"a"}, 17); !alike(f, api.Filter{}) || e != api.ErrArg {
		t.Errorf("Build with 17 bits: %s, %d", told(f), e)
	}
	if f, e := Build(nil, -1); !alike(f, api.Filter{}) || e != api.ErrArg {
		t.Errorf("Build with -1 bits: %s, %d", told(f), e)
	}
	if f := built(t, keysOf("k", 10), 12); len(f.Data) != 15 || f.Hashes != 8 {
		t.Errorf("Build of 10 keys: %s", told(f))
	}
	for _, s := range []string{"", "\x01", "\x09\x01\x00", "\x06\x00", "\x06\x01", "\x00\x00"} {
		if f, e := Decode([]byte(s)); !alike(f, api.Filter{}) || e != api.ErrFilter {
			t.Errorf("Decode of %x: %s, %d", s, told(f), e)
		}
	}
	if f, e := Join(one, api.Filter{Hashes: 6, Data: []byte{1, 2}}); !alike(f, api.Filter{}) || e != api.ErrArg {
		t.Errorf("Join of 1 byte and 2: %s, %d", told(f), e)
	}
}

// 7.1

func TestHashNumbers(t *testing.T) {
	every := make([]byte, 256)
	for i := range every {
		every[i] = byte(i)
	}
	for _, row := range []struct {
		key  string
		x, y uint64
	}{
		{"", 0xcbf29ce484222325, 0xc3817c016ba4ff31},
		{"a", 0xaf63dc4c8601ec8c, 0x5f29c2aadd9b8527},
		{"b", 0xaf63df4c8601f1a5, 0x56f6a47e30923665},
		{"foobar", 0x85944171f73967e8, 0x5df295413403de4f},
		{"\x00", 0xaf63bd4c8601b7df, 0x71b8262bb6e2e087},
		{"\xff", 0xaf64724c8602eb6e, 0x01df27c8adb0f2d1},
		{"ä", 0x0ac21207b7181582, 0x9f520a0861a56b8b},
		{strings.Repeat("a", 1024), 0xff4925a7cfa0f725, 0x9808a022aaaa0717},
		{string(every), 0x4242dc5249c33625, 0xf8247f1def37cd97},
	} {
		if x, y := Hash(row.key); x != row.x || y != row.y {
			t.Errorf("Hash of %.20q: %x, %x, want %x, %x", row.key, x, y, row.x, row.y)
		}
	}
}

// holdsHash holds Hash of a key against the plain one.
func holdsHash(t *testing.T, key string) {
	t.Helper()
	x, y := Hash(key)
	wantX, wantY := plainHash(key)
	if x != wantX.Uint64() || y != wantY.Uint64() {
		t.Fatalf("Hash of %.20q (%d bytes): %x, %x, want %x, %x", key, len(key), x, y, wantX, wantY)
	}
	other := fnv.New64a()
	other.Write([]byte(key))
	if x != other.Sum64() {
		t.Fatalf("Hash of %.20q: %x, want %x", key, x, other.Sum64())
	}
	if y&1 != 1 {
		t.Fatalf("Hash of %.20q: %x is even", key, y)
	}
}

func TestHash(t *testing.T) {
	for c := range 256 {
		holdsHash(t, string([]byte{byte(c)}))
		holdsHash(t, string([]byte{byte(c), 0}))
		holdsHash(t, string([]byte{0xc3, byte(c)}))
	}
	for _, n := range []int{0, 2, 3, 7, 8, 9, 63, 64, 65, 1023, 1024, 1025, 65536, 65537} {
		holdsHash(t, strings.Repeat("\x00", n))
		holdsHash(t, strings.Repeat("\xff", n))
		holdsHash(t, strings.Repeat("kä", n))
	}
	r := rand.New(rand.NewSource(71))
	for range 2000 {
		holdsHash(t, randomKey(r))
	}
}

// 7.2

func TestBuildBits(t *testing.T) {
	lists := [][]string{nil, {}, {"a"}, {"a", "a"}, keysOf("k", 40), make([]string, 65536), make([]string, 65537)}
	for _, keys := range lists {
		for _, n := range []int{math.MinInt, -1 << 32, -16, -1, 0, 1, 2, 15, 16, 17, 18, 100, 256, 264, 1 << 32, 1<<32 + 8, math.MaxInt} {
			f, e := Build(keys, n)
			switch {
			case n < 0 || n > 16:
				if !alike(f, api.Filter{}) || e != api.ErrArg {
					t.Errorf("Build of %d keys with %d bits: %s, %d", len(keys), n, told(f), e)
				}
			case len(keys) == 0:
				if !alike(f, api.Filter{}) || e != api.OK {
					t.Errorf("Build of %d keys with %d bits: %s, %d", len(keys), n, told(f), e)
				}
			case n == 0 || len(keys) > 65536:
				if !alike(f, api.Filter{All: true}) || e != api.OK {
					t.Errorf("Build of %d keys with %d bits: %s, %d", len(keys), n, told(f), e)
				}
			default:
				if f.All || f.Hashes == 0 || len(f.Data) == 0 || e != api.OK {
					t.Errorf("Build of %d keys with %d bits: %s, %d", len(keys), n, told(f), e)
				}
			}
		}
	}
}

func TestBuildHashes(t *testing.T) {
	for n, want := range map[int]int{1: 1, 2: 1, 3: 2, 4: 3, 5: 3, 6: 4, 7: 5, 8: 6, 9: 6, 10: 7, 11: 8, 12: 8, 13: 8, 14: 8, 15: 8, 16: 8} {
		for _, count := range []int{1, 2, 100, 5000, 65536} {
			if f := built(t, make([]string, count), n); f.Hashes != want {
				t.Errorf("Build of %d keys with %d bits: %d hashes, want %d", count, n, f.Hashes, want)
			}
		}
		if nearest := int(math.Round(float64(n) * 0.69)); min(nearest, 8) != want {
			t.Errorf("the nearest to %d times 0.69 is %d", n, nearest)
		}
	}
}

func TestBuildBytes(t *testing.T) {
	for _, row := range []struct{ keys, bits, want int }{
		{1, 1, 1}, {7, 1, 1}, {8, 1, 1}, {9, 1, 2}, {16, 1, 2}, {17, 1, 3},
		{1, 7, 1}, {1, 8, 1}, {1, 9, 2}, {1, 16, 2}, {2, 16, 4}, {3, 16, 6}, {5, 3, 2}, {6, 3, 3},
		{4095, 8, 4095}, {4096, 8, 4096}, {4097, 8, 4096}, {2047, 16, 4094}, {2048, 16, 4096}, {2049, 16, 4096},
		{32767, 1, 4096}, {32768, 1, 4096}, {32769, 1, 4096}, {32760, 1, 4095}, {32761, 1, 4096},
		{2520, 13, 4095}, {2521, 13, 4096}, {2979, 11, 4096}, {2978, 11, 4095}, {2977, 11, 4094},
		{65536, 1, 4096}, {65536, 8, 4096}, {65536, 16, 4096},
	} {
		if f := built(t, make([]string, row.keys), row.bits); len(f.Data) != row.want {
			t.Errorf("Build of %d keys with %d bits: %d bytes, want %d", row.keys, row.bits, len(f.Data), row.want)
		}
	}
	for n := 1; n <= 16; n++ {
		for count := 1; count <= 100; count++ {
			size := len(built(t, make([]string, count), n).Data)
			if 8*size < n*count || size > 1 && 8*(size-1) >= n*count {
				t.Errorf("Build of %d keys with %d bits: %d bytes", count, n, size)
			}
		}
	}
}

// holdsBuild holds Build against the plain one.
func holdsBuild(t *testing.T, keys []string, n int) api.Filter {
	t.Helper()
	f, e := Build(keys, n)
	want, wantE := plainBuild(keys, n)
	if !alike(f, want) || e != wantE {
		t.Fatalf("Build of %d keys (%.60q) with %d bits: %s, %d, want %s, %d", len(keys), keys, n, told(f), e, told(want), wantE)
	}
	return f
}

func TestBuildJustTheBits(t *testing.T) {
	for n := -1; n <= 17; n++ {
		for _, keys := range [][]string{nil, {""}, {"a"}, {"b"}, {"", ""}, {"a", "b"}, {"b", "a"}, {"a", "a", "a"}, keysOf("k", 9), keysOf("key", 200)} {
			holdsBuild(t, keys, n)
		}
	}
	holdsBuild(t, []string{strings.Repeat("x", 1024), strings.Repeat("x", 1025), strings.Repeat("x", 100000)}, 11)
	holdsBuild(t, keysOf("k", 2600), 13)
	holdsBuild(t, keysOf("k", 5000), 16)
	if f := built(t, []string{"a"}, 4); !alike(f, api.Filter{Hashes: 3, Data: []byte{1<<4 | 1<<3 | 1<<2}}) {
		t.Errorf("Build of a: %s", told(f))
	}
	r := rand.New(rand.NewSource(72))
	for range 300 {
		keys := make([]string, r.Intn(40))
		for i := range keys {
			keys[i] = randomKey(r)
		}
		holdsBuild(t, keys, r.Intn(17))
	}
}

func TestBuildOfMostKeys(t *testing.T) {
	keys := keysOf("k", 65537)
	f := built(t, keys[:65536], 16)
	if f.All || f.Hashes != 8 || len(f.Data) != 4096 {
		t.Errorf("Build of 65536 keys: %s", told(f))
	}
	for _, key := range keys[:65536] {
		if !Has(f, key) {
			t.Fatalf("%q is denied", key)
		}
	}
	same := built(t, slices.Repeat([]string{"a"}, 65536), 16)
	if !alike(same, plainSet([]string{"a"}, 8, 4096)) {
		t.Errorf("Build of one key 65536 times: %s", told(same))
	}
	if f := built(t, keys, 16); !alike(f, api.Filter{All: true}) {
		t.Errorf("Build of 65537 keys: %s", told(f))
	}
	if f := built(t, slices.Repeat([]string{"a"}, 65537), 1); !alike(f, api.Filter{All: true}) {
		t.Errorf("Build of one key 65537 times: %s", told(f))
	}
}

// 7.3

func TestHasByKinds(t *testing.T) {
	for _, key := range []string{"", "a", "\xff", strings.Repeat("k", 5000)} {
		if Has(api.Filter{}, key) || Has(api.Filter{Data: []byte{}}, key) {
			t.Errorf("what denies everything has %.20q", key)
		}
		if !Has(api.Filter{All: true}, key) || !Has(api.Filter{All: true, Data: []byte{}}, key) {
			t.Errorf("what denies nothing denies %.20q", key)
		}
		for hashes := 1; hashes <= 8; hashes++ {
			for _, size := range []int{1, 2, 3, 4096} {
				if !Has(api.Filter{Hashes: hashes, Data: bytes.Repeat([]byte{255}, size)}, key) {
					t.Errorf("%d bytes with all bits deny %.20q", size, key)
				}
				if Has(api.Filter{Hashes: hashes, Data: make([]byte, size)}, key) {
					t.Errorf("%d bytes without bits have %.20q", size, key)
				}
			}
		}
		for _, f := range sample() {
			if plainKind(f) == "" && Has(f, key) {
				t.Errorf("%s, which may not be, has %.20q", told(f), key)
			}
		}
	}
	full := bytes.Repeat([]byte{255}, 4097)
	for _, f := range []api.Filter{{All: true, Hashes: 1}, {All: true, Data: full[:1]}, {All: true, Hashes: 1, Data: full[:1]}, {Hashes: 9, Data: full[:1]}, {Hashes: 0, Data: full[:1]}, {Hashes: -1, Data: full[:1]}, {Hashes: 1, Data: full}} {
		if Has(f, "a") {
			t.Errorf("%s, which may not be, has a", told(f))
		}
	}
}

func TestHasNeedsJustTheKeysBits(t *testing.T) {
	for _, key := range []string{"", "a", "b", "foobar", "\x00", "ä"} {
		for hashes := 1; hashes <= 8; hashes++ {
			for _, size := range []int{1, 2, 3, 5, 4096} {
				mine := plainSet([]string{key}, hashes, size)
				if !Has(mine, key) {
					t.Errorf("%s denies %q", told(mine), key)
				}
				needed := plainBits(key, hashes, 8*size)
				for bit := range 8 * size {
					isNeeded := slices.Contains(needed, bit)
					if size == 4096 && bit%97 != 0 && !isNeeded {
						continue
					}
					lacks := bytes.Repeat([]byte{255}, size)
					lacks[bit/8] ^= 1 << (bit % 8)
					if got := Has(api.Filter{Hashes: hashes, Data: lacks}, key); got == isNeeded {
						t.Errorf("%d hashes, %d bytes without bit %d: Has of %q is %v", hashes, size, bit, key, got)
					}
				}
			}
		}
	}
}

func TestHas(t *testing.T) {
	r := rand.New(rand.NewSource(73))
	yes := 0
	for range 4000 {
		f := api.Filter{Hashes: 1 + r.Intn(8), Data: make([]byte, 1+r.Intn(5))}
		for i := range f.Data {
			f.Data[i] = byte(r.Intn(256) | r.Intn(256) | r.Intn(256))
		}
		key := randomKey(r)
		got, want := Has(f, key), plainHas(f, key)
		if got != want {
			t.Fatalf("Has of %s, %q: %v", told(f), key, got)
		}
		if got {
			yes++
		}
	}
	if yes < 500 || yes > 3500 {
		t.Errorf("%d of 4000 answers were yes", yes)
	}
}

// 7.4

func TestCheck(t *testing.T) {
	kinds := map[string]int{}
	for _, f := range sample() {
		want := api.OK
		if plainKind(f) == "" {
			want = api.ErrFilter
		}
		if e := Check(f); e != want {
			t.Errorf("Check of %s: %d", told(f), e)
		}
		kinds[plainKind(f)]++
	}
	if kinds["nothing"] != 2 || kinds["everything"] != 2 || kinds["bits"] == 0 || kinds[""] == 0 {
		t.Errorf("the sample has %v", kinds)
	}
	for hashes := -3; hashes <= 12; hashes++ {
		for size := range 4100 {
			want := api.ErrFilter
			if hashes >= 1 && hashes <= 8 && size >= 1 && size <= 4096 || hashes == 0 && size == 0 {
				want = api.OK
			}
			if e := Check(api.Filter{Hashes: hashes, Data: make([]byte, size)}); e != want {
				t.Fatalf("Check of %d hashes, %d bytes: %d", hashes, size, e)
			}
		}
	}
}

// 7.5

func TestEncode(t *testing.T) {
	for _, f := range sample() {
		b, e := Encode(f)
		want, wantE := plainEncode(f)
		if !bytes.Equal(b, want) || e != wantE {
			t.Errorf("Encode of %s: %.20x, %d", told(f), b, e)
		}
		if plainKind(f) == "" {
			continue
		}
		back, e := Decode(b)
		if !alike(back, f) || e != api.OK {
			t.Errorf("Decode of %.20x: %s, %d", b, told(back), e)
		}
	}
	for size, head := range map[int]string{1: "0501", 127: "057f", 128: "058001", 4095: "05ff1f", 4096: "058020"} {
		data := bytes.Repeat([]byte{0xa5}, size)
		b, e := Encode(api.Filter{Hashes: 5, Data: data})
		if hex.EncodeToString(b) != head+hex.EncodeToString(data) || e != api.OK {
			t.Errorf("Encode of %d bytes: %.10x, %d", size, b, e)
		}
	}
}

// holdsDecode holds Decode against the plain one.
func holdsDecode(t *testing.T, b []byte) {
	t.Helper()
	f, e := Decode(b)
	want, wantE := plainDecode(b)
	if !alike(f, want) || e != wantE {
		t.Fatalf("Decode of %.20x (%d bytes): %s, %d, want %s, %d", b, len(b), told(f), e, told(want), wantE)
	}
}

func TestDecodeOfAllShortBytes(t *testing.T) {
	holdsDecode(t, nil)
	holdsDecode(t, []byte{})
	for a := range 256 {
		holdsDecode(t, []byte{byte(a)})
		for b := range 256 {
			holdsDecode(t, []byte{byte(a), byte(b)})
			holdsDecode(t, []byte{byte(a), byte(b), 0})
			holdsDecode(t, []byte{byte(a), byte(b), 1})
			holdsDecode(t, []byte{byte(a), byte(b), 0, 0xff})
			holdsDecode(t, []byte{byte(a), byte(b), 1, 2, 3})
		}
	}
}

func TestDecodeFirstByte(t *testing.T) {
	for first := range 256 {
		f, e := Decode([]byte{byte(first), 2, 5, 6})
		if first >= 1 && first <= 8 {
			if !alike(f, api.Filter{Hashes: first, Data: []byte{5, 6}}) || e != api.OK {
				t.Errorf("Decode with the first byte %d: %s, %d", first, told(f), e)
			}
		} else if !alike(f, api.Filter{}) || e != api.ErrFilter {
			t.Errorf("Decode with the first byte %d: %s, %d", first, told(f), e)
		}
		f, e = Decode([]byte{byte(first)})
		if (first == 0 || first == 255) != (e == api.OK) || f.All != (first == 255) || f.Hashes != 0 || len(f.Data) != 0 {
			t.Errorf("Decode of %d alone: %s, %d", first, told(f), e)
		}
	}
}

func TestDecodeLengths(t *testing.T) {
	for _, size := range []int{1, 2, 126, 127, 128, 129, 4095, 4096} {
		for _, hashes := range []int{1, 8} {
			right, _ := plainEncode(api.Filter{Hashes: hashes, Data: bytes.Repeat([]byte{0x81}, size)})
			holdsDecode(t, right)
			for _, lacking := range []int{1, size / 2, size} {
				holdsDecode(t, right[:len(right)-lacking])
			}
			holdsDecode(t, append(bytes.Clone(right), 0))
			holdsDecode(t, append(bytes.Clone(right), right...))
			if _, e := Decode(right); e != api.OK {
				t.Errorf("Decode of %d bytes: %d", size, e)
			}
			for _, wrong := range [][]byte{right[:len(right)-1], append(bytes.Clone(right), 0)} {
				if f, e := Decode(wrong); !alike(f, api.Filter{}) || e != api.ErrFilter {
					t.Errorf("Decode of %d bytes, one of them too many or too few: %s, %d", size, told(f), e)
				}
			}
		}
	}
	long := make([]byte, 70000)
	for _, s := range []string{
		"\x06\x81\x00\x07", "\x06\x81\x80\x00\x07", "\x06\x81\x80\x80\x80\x80\x80\x80\x80\x00\x07", "\x06\x80\x00",
		"\x06\x81", "\x06\x80", "\x06\xff", "\x06\xff\xff\xff\xff\xff\xff\xff\xff\x7f", "\x06\xff\xff\xff\xff\xff\xff\xff\xff\xff\x01",
		"\x06\x81\x20" + string(long[:4097]), "\x06\x82\x20" + string(long[:4098]), "\x06\x80\x80\x04" + string(long[:65536]),
		"\x06\x81\x80\x80\x80\x10\x07", "\x00\x01\x07", "\x00\xff", "\xff\x00", "\xff\xff", "\xff\x01\x07", "\x00" + string(long),
	} {
		if f, e := Decode([]byte(s)); !alike(f, api.Filter{}) || e != api.ErrFilter {
			t.Errorf("Decode of %.12x: %s, %d", s, told(f), e)
		}
	}
}

func TestDecodeOfAnyBytes(t *testing.T) {
	r := rand.New(rand.NewSource(75))
	for range 20000 {
		b := make([]byte, r.Intn(8))
		for i := range b {
			b[i] = byte(r.Intn(10))
		}
		holdsDecode(t, b)
	}
	for range 3000 {
		f := api.Filter{Hashes: 1 + r.Intn(8), Data: make([]byte, 1+r.Intn(300))}
		r.Read(f.Data)
		b, e := Encode(f)
		if e != api.OK {
			t.Fatalf("Encode of %s: %d", told(f), e)
		}
		if back, e := Decode(b); !alike(back, f) || e != api.OK {
			t.Fatalf("Decode of %s: %s, %d", told(f), told(back), e)
		}
		b[r.Intn(min(len(b), 4))] ^= 1 << r.Intn(8)
		holdsDecode(t, b)
	}
}

// 7.6

// holdsJoin holds Join against the plain one, and against itself the other way round.
func holdsJoin(t *testing.T, a, b api.Filter) {
	t.Helper()
	f, e := Join(a, b)
	want, wantE := plainJoin(a, b)
	if !alike(f, want) || e != wantE {
		t.Fatalf("Join of %s and %s: %s, %d, want %s, %d", told(a), told(b), told(f), e, told(want), wantE)
	}
	if g, e := Join(b, a); !alike(g, want) || e != wantE {
		t.Fatalf("Join of %s and %s: %s, %d, want %s, %d", told(b), told(a), told(g), e, told(want), wantE)
	}
}

func TestJoinByKinds(t *testing.T) {
	everything, nothing, some := api.Filter{}, api.Filter{All: true}, api.Filter{Hashes: 3, Data: []byte{5, 0}}
	for _, row := range []struct{ a, b, want api.Filter }{
		{everything, everything, everything}, {everything, nothing, nothing}, {everything, some, some},
		{nothing, everything, nothing}, {nothing, nothing, nothing}, {nothing, some, nothing},
		{some, everything, some}, {some, nothing, nothing}, {some, some, some},
		{some, api.Filter{Hashes: 3, Data: []byte{6, 128}}, api.Filter{Hashes: 3, Data: []byte{7, 128}}},
		{api.Filter{Data: []byte{}}, some, some}, {some, api.Filter{All: true, Data: []byte{}}, nothing},
	} {
		if f, e := Join(row.a, row.b); !alike(f, row.want) || e != api.OK {
			t.Errorf("Join of %s and %s: %s, %d", told(row.a), told(row.b), told(f), e)
		}
		if f, e := Join(row.b, row.a); !alike(f, row.want) || e != api.OK {
			t.Errorf("Join of %s and %s: %s, %d", told(row.b), told(row.a), told(f), e)
		}
	}
}

func TestJoinErrors(t *testing.T) {
	one := func(hashes, size int) api.Filter { return api.Filter{Hashes: hashes, Data: make([]byte, size)} }
	for _, row := range []struct {
		a, b api.Filter
		want api.Errno
	}{
		{one(3, 2), one(4, 2), api.ErrArg}, {one(3, 2), one(3, 3), api.ErrArg}, {one(3, 2), one(4, 3), api.ErrArg},
		{one(1, 1), one(8, 1), api.ErrArg}, {one(1, 4096), one(1, 4095), api.ErrArg}, {one(8, 4096), one(8, 4096), api.OK},
		{one(9, 2), one(3, 2), api.ErrFilter}, {one(9, 2), one(9, 2), api.ErrFilter}, {one(3, 4097), one(3, 4097), api.ErrFilter},
		{one(9, 2), one(3, 1), api.ErrFilter}, {one(0, 2), one(3, 2), api.ErrFilter}, {one(3, 0), one(3, 2), api.ErrFilter},
		{one(9, 2), api.Filter{}, api.ErrFilter}, {one(9, 2), api.Filter{All: true}, api.ErrFilter},
		{api.Filter{All: true, Hashes: 1}, api.Filter{All: true}, api.ErrFilter},
		{api.Filter{All: true, Hashes: 3, Data: []byte{1}}, one(3, 1), api.ErrFilter},
		{api.Filter{All: true, Data: []byte{1}}, api.Filter{}, api.ErrFilter},
	} {
		if _, e := Join(row.a, row.b); e != row.want {
			t.Errorf("Join of %s and %s: %d, want %d", told(row.a), told(row.b), e, row.want)
		}
		holdsJoin(t, row.a, row.b)
	}
}

func TestJoinOfAll(t *testing.T) {
	all := sample()
	for _, a := range all {
		for _, b := range all {
			holdsJoin(t, a, b)
		}
	}
	r := rand.New(rand.NewSource(76))
	for range 3000 {
		a := api.Filter{Hashes: 1 + r.Intn(2), Data: make([]byte, 1+r.Intn(3))}
		b := api.Filter{Hashes: 1 + r.Intn(2), Data: make([]byte, 1+r.Intn(3))}
		r.Read(a.Data)
		r.Read(b.Data)
		holdsJoin(t, a, b)
	}
}

// 7.7

// roomy puts bytes into a list with a filled room behind them.
func roomy(b []byte) []byte {
	whole := bytes.Repeat([]byte{0x5a}, len(b)+64)
	copy(whole, b)
	return whole[:len(b)]
}

// holdsRoom tells whether a roomy list and its room are as they were made.
func holdsRoom(t *testing.T, what string, got, want []byte) {
	t.Helper()
	whole := got[:cap(got)]
	if !bytes.Equal(whole[:len(want)], want) || len(whole) < len(want)+64 {
		t.Errorf("%s: what was handed in is %.20x now", what, whole)
	}
	for i, c := range whole[len(want):] {
		if c != 0x5a && i < 64 {
			t.Errorf("%s: the room behind is changed at %d", what, i)
			return
		}
	}
}

// shares tells whether two lists, with the room behind them, have a byte of memory in common.
func shares(a, b []byte) bool {
	if cap(a) == 0 || cap(b) == 0 {
		return false
	}
	a, b = a[:cap(a)], b[:cap(b)]
	fromA, fromB := uintptr(unsafe.Pointer(&a[0])), uintptr(unsafe.Pointer(&b[0]))
	return fromA < fromB+uintptr(len(b)) && fromB < fromA+uintptr(len(a))
}

func TestBuildKeepsNothing(t *testing.T) {
	first, second := []byte("first"), []byte("second")
	whole := []string{unsafe.String(&first[0], 5), unsafe.String(&second[0], 6), "room"}
	f := built(t, whole[:2], 10)
	if string(first) != "first" || string(second) != "second" || !slices.Equal(whole, []string{"first", "second", "room"}) {
		t.Errorf("the keys are %q now", whole)
	}
	want := plainSet([]string{"first", "second"}, 7, 3)
	copy(first, "other")
	copy(second, "others")
	whole[0], whole[1] = "x", "y"
	if !alike(f, want) || !Has(f, "first") || !Has(f, "second") {
		t.Errorf("the filter is %s now, was %s", told(f), told(want))
	}
	g, h := built(t, []string{"a"}, 8), built(t, []string{"a"}, 8)
	if shares(g.Data, h.Data) {
		t.Error("two filters share memory")
	}
	g.Data[0] = 0
	if h := built(t, []string{"a"}, 8); h.Data[0] != 0x9f {
		t.Errorf("a later filter is %s", told(h))
	}
	none, all := built(t, nil, 8), built(t, []string{"a"}, 0)
	none.Data, all.Data = append(none.Data, 1), append(all.Data, 1)
	if again := built(t, nil, 8); len(again.Data[:cap(again.Data)]) != 0 {
		t.Errorf("a later filter has the room %x", again.Data[:cap(again.Data)])
	}
}

func TestAskingKeepsNothing(t *testing.T) {
	for _, plain := range []api.Filter{{Hashes: 3, Data: []byte{0xff, 0x0f}}, {Data: []byte{}}, {All: true, Data: []byte{}}, {Hashes: 9, Data: []byte{1}}} {
		f := plain
		f.Data = roomy(plain.Data)
		key := []byte("key")
		Has(f, unsafe.String(&key[0], 3))
		Hash(unsafe.String(&key[0], 3))
		if string(key) != "key" {
			t.Errorf("the key is %q now", key)
		}
		holdsRoom(t, "Has", f.Data, plain.Data)
		Check(f)
		holdsRoom(t, "Check", f.Data, plain.Data)
		b, _ := Encode(f)
		holdsRoom(t, "Encode", f.Data, plain.Data)
		if shares(b, f.Data) {
			t.Error("Encode's bytes share memory with the filter")
		}
		again, _ := Encode(f)
		if shares(b, again) {
			t.Error("the bytes of two calls of Encode share memory")
		}
		for i := range b[:cap(b)] {
			b[:cap(b)][i] = 77
		}
		holdsRoom(t, "Encode's bytes", f.Data, plain.Data)
		if last, _ := Encode(f); !bytes.Equal(last, again) {
			t.Errorf("Encode: %x, then %x", again, last)
		}
	}
}

func TestDecodeKeepsNothing(t *testing.T) {
	for _, s := range []string{"\x00", "\xff", "\x03\x02\x07\x08", "\x03\x02\x07", "\x03", ""} {
		b := roomy([]byte(s))
		f, e := Decode(b)
		holdsRoom(t, "Decode", b, []byte(s))
		if shares(f.Data, b) {
			t.Errorf("Decode's filter shares memory with %x", s)
		}
		g, _ := Decode(b)
		if shares(f.Data, g.Data) {
			t.Error("two filters share memory")
		}
		for i := range b[:cap(b)] {
			b[:cap(b)][i] = 99
		}
		if want, wantE := plainDecode([]byte(s)); !alike(f, want) || e != wantE {
			t.Errorf("Decode of %x is %s, %d now", s, told(f), e)
		}
	}
}

func TestJoinKeepsNothing(t *testing.T) {
	plain := []api.Filter{{}, {Data: []byte{}}, {All: true}, {All: true, Data: []byte{}}, {Hashes: 3, Data: []byte{5, 6}}, {Hashes: 3, Data: []byte{1, 8}}, {Hashes: 3, Data: []byte{1}}, {Hashes: 9, Data: []byte{1}}}
	for _, pa := range plain {
		for _, pb := range plain {
			a, b := pa, pb
			a.Data, b.Data = roomy(pa.Data), roomy(pb.Data)
			f, _ := Join(a, b)
			holdsRoom(t, "Join, the first", a.Data, pa.Data)
			holdsRoom(t, "Join, the second", b.Data, pb.Data)
			if shares(f.Data, a.Data) || shares(f.Data, b.Data) {
				t.Errorf("Join of %s and %s shares memory with them", told(a), told(b))
			}
			g, _ := Join(a, b)
			if shares(f.Data, g.Data) {
				t.Error("two filters share memory")
			}
			a.Data, b.Data = append(a.Data, 1), append(b.Data, 1)
			for i := range a.Data {
				a.Data[i] = 0x33
			}
			for i := range b.Data {
				b.Data[i] = 0x44
			}
			if want, _ := plainJoin(pa, pb); !alike(f, want) {
				t.Errorf("Join of %s and %s is %s now", told(pa), told(pb), told(f))
			}
		}
	}
	f := api.Filter{Hashes: 3, Data: roomy([]byte{5, 6})}
	g, _ := Join(f, f)
	if shares(f.Data, g.Data) {
		t.Error("Join with itself shares memory")
	}
	holdsRoom(t, "Join with itself", f.Data, []byte{5, 6})
}

// What follows

func TestNoFalseNo(t *testing.T) {
	r := rand.New(rand.NewSource(77))
	for round := range 200 {
		keys := make([]string, 1+r.Intn(60))
		for i := range keys {
			keys[i] = randomKey(r)
		}
		n := r.Intn(17)
		f := built(t, keys, n)
		b, _ := Encode(f)
		back, e := Decode(b)
		if e != api.OK {
			t.Fatalf("round %d: Decode: %d", round, e)
		}
		filters := []api.Filter{f, back}
		other := plainSet([]string{randomKey(r), randomKey(r)}, 1, 1)
		if n > 0 {
			other = plainSet([]string{randomKey(r), randomKey(r)}, f.Hashes, len(f.Data))
		}
		for _, with := range []api.Filter{{}, {All: true}, f, other} {
			x, e := Join(f, with)
			y, e2 := Join(with, back)
			if e != api.OK || e2 != api.OK {
				t.Fatalf("round %d: Join of %s and %s: %d, %d", round, told(f), told(with), e, e2)
			}
			filters = append(filters, x, y)
		}
		for i, x := range filters {
			for _, key := range keys {
				if !Has(x, key) {
					t.Fatalf("round %d: filter %d, %s, denies %q", round, i, told(x), key)
				}
			}
		}
	}
}

func TestMostOthersAreDenied(t *testing.T) {
	keys, others := keysOf("key", 1000), keysOf("other", 10000)
	for n, most := range map[int]int{4: 2000, 8: 400, 12: 100, 16: 40} {
		f := built(t, keys, n)
		wrong := 0
		for _, key := range others {
			if Has(f, key) {
				wrong++
			}
		}
		if wrong > most {
			t.Errorf("with %d bits %d of 10000 others are not denied", n, wrong)
		}
	}
	f := built(t, nil, 8)
	for _, key := range others {
		if Has(f, key) {
			t.Fatalf("a filter of no keys has %q", key)
		}
	}
}

// countBits tells how many bits are set.
func countBits(data []byte) int {
	n := 0
	for _, c := range data {
		n += bits.OnesCount8(c)
	}
	return n
}

func TestFewBits(t *testing.T) {
	r := rand.New(rand.NewSource(78))
	for n := 1; n <= 16; n++ {
		for count := 1; count <= 30; count++ {
			keys := make([]string, count)
			unlike := map[string]int{}
			for i := range keys {
				keys[i] = randomKey(r)
				unlike[keys[i]]++
			}
			f := built(t, keys, n)
			if set := countBits(f.Data); set > f.Hashes*len(unlike) || set < 1 {
				t.Fatalf("%d unlike keys with %d hashes set %d bits", len(unlike), f.Hashes, set)
			}
		}
	}
}

func TestOrderAndTwice(t *testing.T) {
	r := rand.New(rand.NewSource(79))
	for range 200 {
		keys := keysOf("k", 1+r.Intn(40))
		n := 1 + r.Intn(16)
		f := built(t, keys, n)
		mixed := slices.Clone(keys)
		r.Shuffle(len(mixed), func(i, j int) { mixed[i], mixed[j] = mixed[j], mixed[i] })
		if g := built(t, mixed, n); !alike(f, g) {
			t.Fatalf("another order of %d keys: %s, %s", len(keys), told(f), told(g))
		}
		twice := built(t, append(mixed, keys...), n)
		if want := plainSet(keys, f.Hashes, plainSize(2*len(keys)*n)); !alike(twice, want) {
			t.Fatalf("%d keys twice: %s, want %s", len(keys), told(twice), told(want))
		}
	}
}

func TestJoinFollows(t *testing.T) {
	r := rand.New(rand.NewSource(80))
	for range 300 {
		count, n := 1+r.Intn(30), 1+r.Intn(16)
		a, b := keysOf("a", count), keysOf("b", count)
		f, g := built(t, a, n), built(t, b, n)
		both, e := Join(f, g)
		if want := plainSet(append(a, b...), f.Hashes, len(f.Data)); !alike(both, want) || e != api.OK {
			t.Fatalf("Join of %d keys and others: %s, %d, want %s", count, told(both), e, told(want))
		}
		other, e := Join(g, f)
		if !alike(both, other) || e != api.OK {
			t.Fatalf("Join the other way round: %s, %s", told(both), told(other))
		}
		for _, x := range []api.Filter{f, {}, {All: true}} {
			if same, e := Join(x, x); !alike(same, x) || e != api.OK {
				t.Fatalf("Join of %s with itself: %s, %d", told(x), told(same), e)
			}
		}
	}
}
