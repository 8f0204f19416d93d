package block

import (
	"bytes"
	"encoding/binary"
	"fmt"
	"math"
	"math/rand"
	"runtime"
	"strings"
	"testing"
	"unsafe"

	"winnow/api"
	"winnow/huff"
	"winnow/lz"
)

func TestExamplesOfReading(t *testing.T) {
	r := opened(t, 2, exampleEntries())
	holdsReader(t, r, exampleEntries())
	for k, want := range map[string]int{"": 0, "a": 0, "aa": 1, "ab": 1, "abc": 3, "b": 3} {
		if got := r.Seek(k); got != want {
			t.Errorf("Seek(%q): %d, want %d", k, got, want)
		}
	}
	if k, v, e := r.At(2); k != "ab" || v != "2" || e != api.OK {
		t.Errorf("At(2): %q, %q, %d", k, v, e)
	}
	if k, v, e := r.At(3); k != "" || v != "" || e != api.ErrArg {
		t.Errorf("At(3): %q, %q, %d", k, v, e)
	}
	tile, _, _ := filled(t, 2, 64, exampleEntries()).Finish()
	for raw, want := range map[int]api.Errno{31: api.OK, 30: api.ErrBlock, 32: api.ErrBlock, 0: api.ErrArg} {
		if _, e := Open(tile, raw); e != want {
			t.Errorf("Open with %d raw bytes: %d", raw, e)
		}
	}
	if _, e := Open(tile[:3], 31); e != api.ErrTile {
		t.Errorf("Open of three bytes: %d", e)
	}
	wrong := []byte(exampleRaw)
	wrong[9] = 2
	if _, e := Open(seal(wrong, 0), 31); e != api.ErrBlock {
		t.Errorf("Open of a restart that has bytes in common: %d", e)
	}
}

// 6.5

func TestWhichErrorOfOpenIsFirst(t *testing.T) {
	right := seal([]byte(exampleRaw), 0)
	turned := bytes.Clone(right)
	turned[0] ^= 1
	noBlock := seal([]byte(exampleRaw), 3)
	for _, raw := range []int{math.MinInt, -31, -1, 0, 65537, 65536 + 31, 1<<32 + 31, math.MaxInt} {
		for _, tile := range [][]byte{nil, right[:3], turned, noBlock, right} {
			if r, e := Open(tile, raw); r != nil || e != api.ErrArg {
				t.Errorf("Open(%x, %d): %d", tile, raw, e)
			}
		}
	}
	for _, raw := range []int{1, 30, 31, 32, 65535, 65536} {
		for size := range 4 {
			if r, e := Open(right[:size], raw); r != nil || e != api.ErrTile {
				t.Errorf("Open of %d bytes, %d: %d", size, raw, e)
			}
		}
		flagged := bytes.Clone(noBlock)
		flagged[len(flagged)-1] ^= 0x80
		for _, tile := range [][]byte{turned, flagged, right[:4], right[:30], append(bytes.Clone(right), 0)} {
			if r, e := Open(tile, raw); r != nil || e != api.ErrSum {
				t.Errorf("Open(%x, %d): %d", tile, raw, e)
			}
		}
		if r, e := Open(sealBody(nil), raw); r != nil || e != api.ErrBlock {
			t.Errorf("Open without a flag, %d: %d", raw, e)
		}
		for flag := range 256 {
			want := api.ErrBlock
			if flag == 0 && raw == 31 {
				want = api.OK
			}
			if r, e := Open(seal([]byte(exampleRaw), byte(flag)), raw); (r == nil) != (want != api.OK) || e != want {
				t.Errorf("Open with the flag %d, %d: %d", flag, raw, e)
			}
		}
	}
}

func TestOpenOfEachCode(t *testing.T) {
	r := rand.New(rand.NewSource(4))
	for range 300 {
		es := someEntries(r, 1+r.Intn(40), 5)
		raw := plainRaw(es, 1+r.Intn(64))
		for flag, p := range payloads(t, raw) { // also those that Finish would not have taken
			if !holdsOpen(t, seal(p, byte(flag)), len(raw)) {
				t.Fatalf("%q, flag %d", es, flag)
			}
			for _, other := range []int{1, 14, 15, 16, len(raw) - 1, len(raw) + 1, 2 * len(raw), 65535, 65536} {
				holdsOpen(t, seal(p, byte(flag)), other)
			}
			for other := range 4 {
				holdsOpen(t, seal(p, byte(other)), len(raw))
			}
			holdsOpen(t, seal(p[:len(p)-1], byte(flag)), len(raw))
			holdsOpen(t, seal(append(bytes.Clone(p), 0), byte(flag)), len(raw))
		}
	}
}

// allEight is a code of a text with words of eight bits each, which huff.Encode would not write.
func allEight(text []byte) []byte {
	out := []byte{0x80, 0x02, 8, 0}
	for _, c := range text {
		turned := byte(0) // a word's highest bit is first, and a byte's lowest
		for k := range 8 {
			turned |= c >> k & 1 << (7 - k)
		}
		out = append(out, turned)
	}
	return out
}

func TestPayloadsThatNoEncoderWrites(t *testing.T) {
	raw := plainRaw(waves(3, 200), 2)
	slow, e := lz.Write([]api.Token{{Lit: raw}})
	if own := payloads(t, raw)[1]; e != api.OK || bytes.Equal(slow, own) {
		t.Fatalf("lz.Encode writes %x, too", own)
	}
	for name, tile := range map[string][]byte{
		"lz with one token":     seal(slow, 1),
		"words of eight bits":   seal(allEight(raw), 2),
		"raw bytes, lz is less": seal(raw, 0),
	} {
		if !holdsOpen(t, tile, len(raw)) {
			t.Errorf("%s: refused", name)
		}
	}
}

// number is a short number.
func number(v int) string { return string(binary.AppendUvarint(nil, uint64(v))) }

// word is a fixed number of four bytes.
func word(v int) string { return string(binary.LittleEndian.AppendUint32(nil, uint32(v))) }

func TestRawBytesOfEntries(t *testing.T) {
	k, v := strings.Repeat("k", 1024), strings.Repeat("v", 1024)
	top, high := number(1024), number(1025)
	for _, x := range []struct {
		name string
		raw  string
		want api.Errno
	}{
		{"the smallest block", "\x00\x00\x00" + word(0) + word(1) + word(1), api.OK},
		{"an R of 64", "\x00\x00\x00" + word(0) + word(64) + word(1), api.OK},
		{"an R of 0", "\x00\x00\x00" + word(0) + word(0) + word(1), api.ErrBlock},
		{"an R of 65", "\x00\x00\x00" + word(0) + word(65) + word(1), api.ErrBlock},
		{"an R of 256", "\x00\x00\x00" + word(0) + word(256) + word(1), api.ErrBlock},
		{"an R of 2^32 - 1", "\x00\x00\x00" + word(0) + word(-1) + word(1), api.ErrBlock},
		{"an n of 0", "\x00\x00\x00" + word(0) + word(1) + word(0), api.ErrBlock},
		{"an n of 0 without entries", word(1) + word(0), api.ErrBlock},
		{"an n of 0 with a restart", word(0) + word(1) + word(0), api.ErrBlock},
		{"an n that is one more", "\x00\x00\x00" + word(0) + word(2) + word(2), api.ErrBlock},
		{"an n that is one less", "\x00\x00\x00\x00\x00\x00" + word(0) + word(2) + word(1), api.ErrBlock},
		{"an n of 2^32 - 1", "\x00\x00\x00" + word(0) + word(1) + word(-1), api.ErrBlock},
		{"an n of 2^31", "\x00\x00\x00" + word(0) + word(64) + word(1<<31), api.ErrBlock},
		{"an n of 2^30, whose restarts' bytes wrap", "\x00\x00\x00" + word(0) + word(1) + word(1<<30), api.ErrBlock},
		{"no bytes ahead of R", word(1) + word(1), api.ErrBlock},
		{"seven bytes", word(1) + "\x01\x00\x00", api.ErrBlock},
		{"one byte", "\x00", api.ErrBlock},
		{"no entry ahead of the restart", word(0) + word(1) + word(1), api.ErrBlock},
		{"a byte between entry and restart", "\x00\x00\x00\x00" + word(0) + word(1) + word(1), api.ErrBlock},
		{"a byte behind", "\x00\x00\x00" + word(0) + word(1) + word(1) + "\x00", api.ErrBlock},
		{"a byte ahead", "\x00" + "\x00\x01\x00a" + word(0) + word(1) + word(1), api.ErrBlock},
		{"a byte ahead, which the restart passes over", "\x00" + "\x00\x01\x00a" + word(1) + word(1) + word(1), api.ErrBlock},
		{"a first place of 1", "\x00\x00\x00" + word(1) + word(1) + word(1), api.ErrBlock},
		{"a first place of 2^32 - 1", "\x00\x00\x00" + word(-1) + word(1) + word(1), api.ErrBlock},
		{"two restarts", "\x00\x00\x00\x00\x00\x00" + word(0) + word(3) + word(1) + word(2), api.OK},
		{"a second place one too low", "\x00\x00\x00\x00\x00\x00" + word(0) + word(2) + word(1) + word(2), api.ErrBlock},
		{"a second place one too high", "\x00\x00\x00\x00\x00\x00" + word(0) + word(4) + word(1) + word(2), api.ErrBlock},
		{"a second place at the end", "\x00\x00\x00\x00\x00\x00" + word(0) + word(6) + word(1) + word(2), api.ErrBlock},
		{"a second place behind the end", "\x00\x00\x00\x00\x00\x00" + word(0) + word(7) + word(1) + word(2), api.ErrBlock},
		{"a second place of 2^31", "\x00\x00\x00\x00\x00\x00" + word(0) + word(1<<31) + word(1) + word(2), api.ErrBlock},
		{"a second place of 0", "\x00\x00\x00\x00\x00\x00" + word(0) + word(0) + word(1) + word(2), api.ErrBlock},
		{"places that fall", "\x00\x00\x00\x00\x00\x00\x00\x00\x00" + word(0) + word(6) + word(3) + word(1) + word(3), api.ErrBlock},
		{"a restart too few", "\x00\x00\x00\x00\x00\x00" + word(0) + word(1) + word(2), api.ErrBlock},
		{"a restart too many", "\x00\x00\x00\x00\x00\x00" + word(0) + word(3) + word(2) + word(2), api.ErrBlock},
		{"one entry more than R", "\x00\x00\x00\x00\x00\x00\x00\x00\x00" + word(0) + word(6) + word(2) + word(3), api.OK},
		{"the second group two entries", "\x00\x00\x00\x00\x00\x00\x00\x00\x00" + word(0) + word(3) + word(2) + word(3), api.ErrBlock},
		{"all that is common", "\x00\x01\x00a\x01\x01\x00b" + word(0) + word(2) + word(2), api.OK},
		{"an alike key", "\x00\x01\x00a\x01\x00\x00" + word(0) + word(2) + word(2), api.OK},
		{"a common part that is one too short", "\x00\x01\x00a\x00\x02\x00ab" + word(0) + word(2) + word(2), api.ErrBlock},
		{"an alike key told whole", "\x00\x01\x00a\x00\x01\x00a" + word(0) + word(2) + word(2), api.ErrBlock},
		{"an alike key told whole at a restart", "\x00\x01\x00a\x00\x01\x00a" + word(0) + word(4) + word(1) + word(2), api.OK},
		{"an alike key by its common part at a restart", "\x00\x01\x00a\x01\x00\x00" + word(0) + word(4) + word(1) + word(2), api.ErrBlock},
		{"a common part at the first entry", "\x01\x00\x00" + word(0) + word(1) + word(1), api.ErrBlock},
		{"a common part longer than the key ahead", "\x00\x01\x00a\x02\x00\x00" + word(0) + word(2) + word(2), api.ErrBlock},
		{"a key that falls", "\x00\x01\x00b\x00\x01\x00a" + word(0) + word(2) + word(2), api.ErrBlock},
		{"a key that falls behind a common part", "\x00\x02\x00ab\x01\x01\x00a" + word(0) + word(2) + word(2), api.ErrBlock},
		{"a key that falls by its length", "\x00\x02\x00ab\x01\x00\x00" + word(0) + word(2) + word(2), api.ErrBlock},
		{"a key that falls at a restart", "\x00\x01\x00b\x00\x01\x00a" + word(0) + word(4) + word(1) + word(2), api.ErrBlock},
		{"an empty key at a restart", "\x00\x01\x00b\x00\x00\x00" + word(0) + word(4) + word(1) + word(2), api.ErrBlock},
		{"a key that rises by a high byte", "\x00\x01\x00\x7f\x00\x01\x00\x80" + word(0) + word(2) + word(2), api.OK},
		{"a number that is not as short as can be", "\x80\x00\x00\x00" + word(0) + word(1) + word(1), api.ErrBlock},
		{"a key's length that is not", "\x00\x80\x00\x00" + word(0) + word(1) + word(1), api.ErrBlock},
		{"a value's length that is not", "\x00\x00\x80\x00" + word(0) + word(1) + word(1), api.ErrBlock},
		{"a number of ten bytes", "\x00\x00" + strings.Repeat("\xff", 9) + "\x01" + word(0) + word(1) + word(1), api.ErrBlock},
		{"a value that goes into the restarts", "\x00\x00\x01" + word(0) + word(1) + word(1), api.ErrBlock},
		{"a key that goes into the restarts", "\x00\x01\x00" + word(0) + word(1) + word(1), api.ErrBlock},
		{"a value that goes into the next group", "\x00\x00\x03\x00\x00\x00" + word(0) + word(3) + word(1) + word(2), api.ErrBlock},
		{"a key of 1024 bytes", "\x00" + top + "\x00" + k + word(0) + word(1) + word(1), api.OK},
		{"a key of 1025 bytes", "\x00" + high + "\x00" + k + "k" + word(0) + word(1) + word(1), api.ErrBlock},
		{"a value of 1024 bytes", "\x00\x00" + top + v + word(0) + word(1) + word(1), api.OK},
		{"a value of 1025 bytes", "\x00\x00" + high + v + "v" + word(0) + word(1) + word(1), api.ErrBlock},
		{"a key and a value of 1024 bytes", "\x00" + top + top + k + v + word(0) + word(1) + word(1), api.OK},
		{"1024 bytes once more", "\x00" + top + "\x00" + k + top + "\x00\x01v" + word(0) + word(2) + word(2), api.OK},
		{"1024 bytes and one more", "\x00" + top + "\x00" + k + top + "\x01\x00k" + word(0) + word(2) + word(2), api.ErrBlock},
		{"1023 bytes and one more", "\x00" + number(1023) + "\x00" + k[1:] + number(1023) + "\x01\x00k" + word(0) + word(2) + word(2), api.OK},
		{"1023 bytes and two more", "\x00" + number(1023) + "\x00" + k[1:] + number(1023) + "\x02\x00kk" + word(0) + word(2) + word(2), api.ErrBlock},
	} {
		if _, e := plainOpen(seal([]byte(x.raw), 0), len(x.raw)); e != x.want {
			t.Errorf("%s: the plain reading answers %d", x.name, e)
			continue
		}
		holdsOpen(t, seal([]byte(x.raw), 0), len(x.raw))
	}
}

func TestEachByteChanged(t *testing.T) {
	r := rand.New(rand.NewSource(5))
	taken := 0
	for range 12 {
		raw := plainRaw(someEntries(r, 1+r.Intn(7), 3), 1+r.Intn(4))
		for at := range raw {
			for c := range 256 {
				x := bytes.Clone(raw)
				x[at] = byte(c)
				if holdsOpen(t, seal(x, 0), len(x)) {
					taken++
				}
			}
			without := append(bytes.Clone(raw[:at]), raw[at+1:]...)
			holdsOpen(t, seal(without, 0), len(without))
			for _, c := range []byte{0, 1, 'a', 0x80, 0xff} {
				more := append(append(bytes.Clone(raw[:at]), c), raw[at:]...)
				holdsOpen(t, seal(more, 0), len(more))
			}
		}
	}
	if taken < 1000 {
		t.Errorf("only %d were taken", taken)
	}
}

func TestAnyBytes(t *testing.T) {
	r := rand.New(rand.NewSource(6))
	taken := 0
	for range 60000 {
		n := 1 + r.Intn(4)
		raw := []byte(letters(r, r.Intn(20), 4))
		for i := range raw {
			raw[i] = byte(r.Intn(3))
		}
		for range n {
			raw = append(raw, word(r.Intn(8))...)
		}
		raw = append(raw, word(r.Intn(4))...)
		raw = append(raw, word(n)...)
		if holdsOpen(t, seal(raw, 0), len(raw)) {
			taken++
		}
	}
	for range 20000 {
		payload := make([]byte, r.Intn(60))
		r.Read(payload)
		holdsOpen(t, seal(payload, byte(r.Intn(4))), 1+r.Intn(100))
		holdsOpen(t, payload, 1+r.Intn(100))
	}
	if taken == 0 {
		t.Error("none was taken")
	}
}

func TestWhatIsOpenedKeepsTheBounds(t *testing.T) {
	r := rand.New(rand.NewSource(7))
	long := strings.Repeat("k", 1020)
	for range 4000 {
		es := []pair{{long + letters(r, r.Intn(5), 3), letters(r, r.Intn(3), 3)}, {strings.Repeat("k", 1024), strings.Repeat("v", 1024)}}
		raw := plainRaw(es, 2)
		for range 1 + r.Intn(3) {
			raw[r.Intn(len(raw))] += byte(1 + r.Intn(3))
		}
		for _, at := range []int{1, 2, 1024, 1025, 1026, 1027, 1028} {
			raw[at] += byte(r.Intn(2))
		}
		tile := seal(raw, 0)
		holdsOpen(t, tile, len(raw))
		b, e := Open(tile, len(raw))
		if e != api.OK {
			continue
		}
		last := ""
		for k, v := range b.All() {
			if k < last || len(k) > 1024 || len(v) > 1024 {
				t.Fatalf("a key of %d bytes, a value of %d", len(k), len(v))
			}
			last = k
		}
	}
}

// grown tells how many bytes a call takes, of which some may be given back already: the least of some times, as whatever else runs meanwhile may take some, too.
func grown(do func()) uint64 {
	least := uint64(math.MaxUint64)
	for range 5 {
		var before, after runtime.MemStats
		runtime.ReadMemStats(&before)
		do()
		runtime.ReadMemStats(&after)
		least = min(least, after.TotalAlloc-before.TotalAlloc)
	}
	return least
}

func TestNoMoreThanRawBytesAreMade(t *testing.T) {
	text := make([]byte, 65536)
	byLz, _ := lz.Encode(text)
	byHuff, _ := huff.Encode(text)
	for _, x := range []struct {
		name string
		tile []byte
		raw  int
		most uint64
	}{
		{"lz of far more bytes than are asked for", seal(byLz, 1), 100, 40000},
		{"huff of far more bytes than are asked for", seal(byHuff, 2), 100, 40000},
		{"lz of a few bytes, of which many are asked for", seal(byLz[:20], 1), 65536, 8000},
		{"huff of a few bytes, of which many are asked for", seal([]byte{1, 1, 0, 0, 0, 0}, 2), 65536, 8000},
		{"raw bytes that are fewer", seal(text[:1100], 0), 65536, 8000},
		{"a number of entries that is not", seal([]byte(word(64)+word(math.MaxInt32)), 0), 8, 8000},
	} {
		if got := grown(func() { Open(x.tile, x.raw) }); got > x.most {
			t.Errorf("%s: Open takes %d bytes", x.name, got)
		}
	}
}

// A reader of long keys that begin alike keeps about the raw bytes, which are far fewer than the keys'.
func TestReadersKeepTheRawBytesAlone(t *testing.T) {
	var es []pair
	keys := 0
	b := builder(t, 64, 65536)
	for i := 0; ; i++ {
		x := pair{strings.Repeat("k", 1020) + fmt.Sprintf("%04d", i), ""}
		if b.Add(x.key, x.value) != api.OK {
			break
		}
		es = append(es, x)
		keys += len(x.key)
	}
	tile, raw, e := b.Finish()
	if e != api.OK || keys < 40*raw {
		t.Fatalf("%d bytes of keys in %d raw bytes, %d", keys, raw, e)
	}
	var before, after runtime.MemStats
	var readers [20]*Reader
	runtime.GC()
	runtime.ReadMemStats(&before)
	for i := range readers {
		readers[i], _ = Open(tile, raw)
	}
	runtime.GC()
	runtime.ReadMemStats(&after)
	if got := (int(after.HeapAlloc) - int(before.HeapAlloc)) / len(readers); got > 4*raw {
		t.Errorf("a reader of %d raw bytes keeps %d", raw, got)
	}
	holdsReader(t, readers[19], es)
}

// 6.6

// holdsSeek holds Seek against counting, for a text and its neighbours.
func holdsSeek(t *testing.T, r *Reader, es []pair, k string) {
	t.Helper()
	for _, k := range []string{k, k + "\x00", k + "a", k + "\xff", k[:max(len(k)-1, 0)], k[:len(k)/2], k + k} {
		want := 0
		for _, x := range es {
			if x.key < k {
				want++
			}
		}
		if got := r.Seek(k); got != want {
			t.Fatalf("Seek(%.40q) of %d entries: %d, want %d", k, len(es), got, want)
		}
		if key, _, e := r.At(want); want < len(es) && (e != api.OK || key != es[want].key) {
			t.Fatalf("At(Seek(%.40q)): %.40q, %d", k, key, e)
		}
	}
}

func TestSeek(t *testing.T) {
	rnd := rand.New(rand.NewSource(8))
	for restart := 1; restart <= 64; restart++ {
		for range 6 {
			es := someEntries(rnd, 1+rnd.Intn(200), 4)
			r := opened(t, restart, es)
			for _, k := range []string{"", "\x00", "a", "b", "zzz", "\xff\xff\xff\xff\xff\xff", strings.Repeat("a", 5000), strings.Repeat("\xff", 1<<16)} {
				holdsSeek(t, r, es, k)
			}
			for range 20 {
				holdsSeek(t, r, es, es[rnd.Intn(len(es))].key)
				holdsSeek(t, r, es, letters(rnd, rnd.Intn(6), 7))
			}
		}
	}
}

func TestSeekOfAlikeKeysAcrossRestarts(t *testing.T) {
	for restart := 1; restart <= 6; restart++ {
		for ahead := range 5 {
			for alike := range 20 {
				for behind := range 3 {
					var es []pair
					for i := range ahead {
						es = append(es, pair{"a", fmt.Sprint(i)})
					}
					for i := range alike {
						es = append(es, pair{"m", fmt.Sprint(i)})
					}
					for i := range behind {
						es = append(es, pair{"z", fmt.Sprint(i)})
					}
					if len(es) == 0 {
						continue
					}
					r := opened(t, restart, es)
					for _, k := range []string{"", "a", "b", "m", "n", "z", "zz"} {
						holdsSeek(t, r, es, k)
					}
				}
			}
		}
	}
}

func TestAllShortListsSeek(t *testing.T) {
	lists(3, func(es []pair) {
		for _, restart := range []int{1, 2, 3} {
			if len(es) > 0 {
				r := opened(t, restart, es)
				for _, k := range []string{"", "a", "aa", "ab", "b"} {
					holdsSeek(t, r, es, k)
				}
			}
		}
	})
}

func TestAtEdges(t *testing.T) {
	r := rand.New(rand.NewSource(9))
	for _, n := range []int{1, 2, 3, 63, 64, 65, 128, 129} {
		for _, restart := range []int{1, 2, 63, 64} {
			es := someEntries(r, n, 4)
			b := opened(t, restart, es)
			for _, i := range []int{math.MinInt, -restart, -1, n, n + 1, n + restart, 1 << 32, math.MaxInt} {
				if k, v, e := b.At(i); k != "" || v != "" || e != api.ErrArg {
					t.Errorf("At(%d) of %d: %q, %q, %d", i, n, k, v, e)
				}
			}
			for _, i := range []int{n - 1, 0, n / 2, n - 1, 0} { // in any order, again too
				if k, v, e := b.At(i); k != es[i].key || v != es[i].value || e != api.OK {
					t.Errorf("At(%d) of %d: %q, %q, %d", i, n, k, v, e)
				}
			}
		}
	}
}

func TestAllIsLeftEarly(t *testing.T) {
	es := someEntries(rand.New(rand.NewSource(10)), 20, 4)
	for _, restart := range []int{1, 3, 20, 64} {
		r := opened(t, restart, es)
		all := r.All()
		for leave := range 21 {
			i := 0
			for k, v := range all { // the same iterator is gone through again and again
				if i == leave {
					break
				}
				if k != es[i].key || v != es[i].value {
					t.Errorf("restart %d: %d: %q, %q", restart, i, k, v)
				}
				i++
			}
			if i != leave {
				t.Errorf("restart %d: left behind %d of %d", restart, i, leave)
			}
		}
		calls := 0
		all(func(string, string) bool { calls++; return calls < 5 })
		if calls != 5 {
			t.Errorf("restart %d: it goes on behind its end: %d", restart, calls)
		}
		holdsReader(t, r, es)
	}
}

func TestTwoGoThroughAtOneTime(t *testing.T) {
	es := someEntries(rand.New(rand.NewSource(11)), 12, 4)
	r := opened(t, 5, es)
	outer := 0
	all := r.All()
	for k := range all {
		inner := 0
		for k, v := range all {
			if k != es[inner].key || v != es[inner].value {
				t.Fatalf("%d, %d: %q, %q", outer, inner, k, v)
			}
			inner++
		}
		if k != es[outer].key || inner != 12 || r.Seek(k) > outer {
			t.Fatalf("%d: %q, %d", outer, k, inner)
		}
		outer++
	}
	if outer != 12 {
		t.Errorf("%d entries", outer)
	}
}

func TestANilReader(t *testing.T) {
	var r *Reader
	if r.Len() != 0 {
		t.Errorf("Len: %d", r.Len())
	}
	for _, k := range []string{"", "a", strings.Repeat("\xff", 2000)} {
		if got := r.Seek(k); got != 0 {
			t.Errorf("Seek(%.20q): %d", k, got)
		}
	}
	for _, i := range []int{math.MinInt, -1, 0, 1, math.MaxInt} {
		if k, v, e := r.At(i); k != "" || v != "" || e != api.ErrNil {
			t.Errorf("At(%d): %q, %q, %d", i, k, v, e)
		}
	}
	all := r.All()
	if all == nil {
		t.Fatal("All is nil")
	}
	for k, v := range all {
		t.Errorf("All gives %q, %q", k, v)
	}
}

// 6.7

func TestATileIsNeitherChangedNorKept(t *testing.T) {
	for flag, p := range payloads(t, []byte(exampleRaw)) {
		tile := seal(p, byte(flag))
		room := append(bytes.Clone(tile), "the room behind"...)
		kept := bytes.Clone(room)
		r, e := Open(room[:len(tile)], 31)
		if e != api.OK {
			t.Fatalf("flag %d: %d", flag, e)
		}
		holdsReader(t, r, exampleEntries())
		r.Seek("ab")
		if !bytes.Equal(room, kept) {
			t.Errorf("flag %d: what was handed in is changed", flag)
		}
		for i := range room {
			room[i] ^= 0xff
		}
		holdsReader(t, r, exampleEntries())
		if got := r.Seek("ab"); got != 1 {
			t.Errorf("flag %d: Seek: %d", flag, got)
		}
		for _, wrong := range [][]byte{kept[:3], kept[:len(tile)-1], kept, seal(p, 3), sealBody(nil)} {
			x := append(bytes.Clone(wrong), "room"...)
			before := bytes.Clone(x)
			Open(x[:len(wrong)], 31)
			if !bytes.Equal(x, before) {
				t.Errorf("flag %d: what was refused is changed", flag)
			}
		}
	}
}

func TestASoughtTextIsNotKept(t *testing.T) {
	r := opened(t, 2, exampleEntries())
	text := []byte("ab")
	if got := r.Seek(unsafe.String(&text[0], 2)); got != 1 {
		t.Errorf("Seek: %d", got)
	}
	text[0] = 'z'
	holdsReader(t, r, exampleEntries())
	if got := r.Seek("ab"); got != 1 {
		t.Errorf("Seek: %d", got)
	}
}

func TestWhatIsToldOutlivesTheRest(t *testing.T) {
	tile, raw, _ := filled(t, 2, 64, exampleEntries()).Finish()
	a, _ := Open(tile, raw)
	b, _ := Open(tile, raw)
	k, v, _ := a.At(2)
	for i := range tile {
		tile[i] = 0
	}
	if k != "ab" || v != "2" {
		t.Errorf("%q, %q", k, v)
	}
	holdsReader(t, a, exampleEntries())
	holdsReader(t, b, exampleEntries())
}

// What follows

func TestBursts(t *testing.T) {
	r := rand.New(rand.NewSource(12))
	tiles := map[int][]byte{}
	for flag, p := range payloads(t, []byte(exampleRaw)) {
		tiles[flag] = seal(p, byte(flag))
	}
	for flag, tile := range tiles {
		for from := range 8 * len(tile) {
			for _, mask := range []uint32{1, 3, 0x80000001, math.MaxUint32, r.Uint32() | 1, r.Uint32() | 1} {
				x := bytes.Clone(tile)
				for k := range 32 {
					if at := from + k; mask>>k&1 == 1 && at < 8*len(x) {
						x[at/8] ^= 1 << (at % 8)
					}
				}
				if got, e := Open(x, 31); got != nil || e != api.ErrSum {
					t.Fatalf("flag %d, the bits %x from %d on: %d", flag, mask, from, e)
				}
			}
		}
	}
}

func TestThereAndBack(t *testing.T) {
	r := rand.New(rand.NewSource(13))
	for range 300 {
		restart, long := 1+r.Intn(64), 1+r.Intn(40)
		es := someEntries(r, 1+r.Intn(300), long)
		holdsReader(t, opened(t, restart, es), es)
	}
	var es []pair
	for i := range 30 {
		es = append(es, pair{strings.Repeat("k", 1023) + string(rune('a'+i/3)), strings.Repeat("v", 1024)})
	}
	for _, restart := range []int{1, 2, 29, 30, 31, 64} {
		holdsReader(t, opened(t, restart, es), es)
	}
}
