package block

import (
	"bytes"
	"encoding/binary"
	"hash/crc32"
	"iter"
	"math/rand"
	"sort"
	"strings"
	"testing"

	"winnow/api"
	"winnow/huff"
	"winnow/lz"
)

// The calls have these signatures, to the letter.
var (
	_ func(int, int) (*Builder, api.Errno)           = NewBuilder
	_ func(*Builder, string, string) api.Errno       = (*Builder).Add
	_ func(*Builder) int                             = (*Builder).Size
	_ func(*Builder) int                             = (*Builder).Len
	_ func(*Builder) ([]byte, int, api.Errno)        = (*Builder).Finish
	_ func([]byte, int) (*Reader, api.Errno)         = Open
	_ func(*Reader) int                              = (*Reader).Len
	_ func(*Reader, int) (string, string, api.Errno) = (*Reader).At
	_ func(*Reader, string) int                      = (*Reader).Seek
	_ func(*Reader) iter.Seq2[string, string]        = (*Reader).All
)

// pair is an entry.
type pair struct{ key, value string }

// plainCommon tells how many first bytes of both are alike.
func plainCommon(a, b string) int {
	n := 0
	for n < len(a) && n < len(b) && a[n] == b[n] {
		n++
	}
	return n
}

// plainRaw goes by the words of section 'Words': the raw bytes of entries.
func plainRaw(es []pair, restart int) []byte {
	var raw, table []byte
	for i, e := range es {
		common := 0
		if i%restart == 0 {
			table = binary.LittleEndian.AppendUint32(table, uint32(len(raw)))
		} else {
			common = plainCommon(es[i-1].key, e.key)
		}
		raw = binary.AppendUvarint(raw, uint64(common))
		raw = binary.AppendUvarint(raw, uint64(len(e.key)-common))
		raw = binary.AppendUvarint(raw, uint64(len(e.value)))
		raw = append(raw, e.key[common:]...)
		raw = append(raw, e.value...)
	}
	raw = append(raw, table...)
	raw = binary.LittleEndian.AppendUint32(raw, uint32(restart))
	return binary.LittleEndian.AppendUint32(raw, uint32(len(es)))
}

// plainEntries tells whose raw bytes these are. It takes what stands there without asking much, and holds the raw bytes of that against these.
func plainEntries(raw []byte) (es []pair, restart int, ok bool) {
	if len(raw) < 8 {
		return nil, 0, false
	}
	r := binary.LittleEndian.Uint32(raw[len(raw)-8:])
	n := binary.LittleEndian.Uint32(raw[len(raw)-4:])
	if r < 1 || r > 64 || n < 1 {
		return nil, 0, false
	}
	last, rest := "", raw
	for range n {
		var numbers [3]uint64
		for k := range numbers {
			v, size := binary.Uvarint(rest)
			if size <= 0 || v > 1024 {
				return nil, 0, false
			}
			numbers[k], rest = v, rest[size:]
		}
		if numbers[0] > uint64(len(last)) || numbers[1]+numbers[2] > uint64(len(rest)) {
			return nil, 0, false
		}
		key := last[:numbers[0]] + string(rest[:numbers[1]])
		value := string(rest[numbers[1] : numbers[1]+numbers[2]])
		if key < last || len(key) > 1024 {
			return nil, 0, false
		}
		rest = rest[len(key)-int(numbers[0])+len(value):]
		es, last = append(es, pair{key, value}), key
	}
	return es, int(r), bytes.Equal(plainRaw(es, int(r)), raw)
}

// seal makes a tile of a payload and a flag.
func seal(payload []byte, flag byte) []byte {
	body := append(bytes.Clone(payload), flag)
	return sealBody(body)
}

func sealBody(body []byte) []byte {
	sum := crc32.Checksum(body, crc32.MakeTable(crc32.Castagnoli))
	return binary.LittleEndian.AppendUint32(bytes.Clone(body), sum)
}

// payloads tells the three payloads of raw bytes, by their flags.
func payloads(t *testing.T, raw []byte) [3][]byte {
	t.Helper()
	byLz, e := lz.Encode(raw)
	if e != api.OK {
		t.Fatalf("lz.Encode: %d", e)
	}
	byHuff, e := huff.Encode(raw)
	if e != api.OK {
		t.Fatalf("huff.Encode: %d", e)
	}
	return [3][]byte{raw, byLz, byHuff}
}

// plainTile goes by the words of 6.4: the tile that Finish has to tell of raw bytes.
func plainTile(t *testing.T, raw []byte) []byte {
	t.Helper()
	three := payloads(t, raw)
	best := 0
	for flag, p := range three {
		if 64*len(p) >= len(raw) && len(p) < len(three[best]) {
			best = flag
		}
	}
	return seal(three[best], byte(best))
}

// plainOpen goes by the words of 6.5.
func plainOpen(tile []byte, raw int) ([]pair, api.Errno) {
	if raw < 1 || raw > 65536 {
		return nil, 3
	}
	if len(tile) < 4 {
		return nil, 11
	}
	body := tile[:len(tile)-4]
	if !bytes.Equal(sealBody(body), tile) {
		return nil, 10
	}
	if len(body) == 0 {
		return nil, 60
	}
	payload, flag := body[:len(body)-1], body[len(body)-1]
	if 64*len(payload) < raw {
		return nil, 60
	}
	text, e := payload, api.OK
	switch flag {
	case 0:
	case 1:
		text, e = lz.Decode(payload, raw)
	case 2:
		text, e = huff.Decode(payload, raw)
	default:
		return nil, 60
	}
	es, _, ok := plainEntries(text)
	if e != api.OK || len(text) != raw || !ok {
		return nil, 60
	}
	return es, 0
}

// plain is a builder by the words of 6.1 to 6.4.
type plain struct {
	restart, most int
	es            []pair
}

func (p *plain) Add(key, value string) api.Errno {
	with := append(p.es[:len(p.es):len(p.es)], pair{key, value})
	switch {
	case len(key) > 1024 || len(value) > 1024:
		return 2
	case len(p.es) > 0 && strings.Compare(key, p.es[len(p.es)-1].key) < 0:
		return 61
	case len(p.es) > 0 && len(plainRaw(with, p.restart)) > p.most:
		return 62
	}
	p.es = with
	return 0
}

func (p *plain) Size() int {
	if len(p.es) == 0 {
		return 0
	}
	return len(plainRaw(p.es, p.restart))
}

func builder(t *testing.T, restart, most int) *Builder {
	t.Helper()
	b, e := NewBuilder(restart, most)
	if b == nil || e != api.OK {
		t.Fatalf("NewBuilder(%d, %d): %d", restart, most, e)
	}
	return b
}

// filled is a builder that has these entries.
func filled(t *testing.T, restart, most int, es []pair) *Builder {
	t.Helper()
	b := builder(t, restart, most)
	for _, x := range es {
		if e := b.Add(x.key, x.value); e != api.OK {
			t.Fatalf("Add(%.20q, %.20q): %d", x.key, x.value, e)
		}
	}
	return b
}

// opened is a reader of entries, by way of a builder.
func opened(t *testing.T, restart int, es []pair) *Reader {
	t.Helper()
	tile, raw, e := filled(t, restart, 65536, es).Finish()
	if e != api.OK {
		t.Fatalf("Finish: %d", e)
	}
	r, e := Open(tile, raw)
	if r == nil || e != api.OK {
		t.Fatalf("Open: %d", e)
	}
	return r
}

// holdsReader holds all that a reader tells against its entries.
func holdsReader(t *testing.T, r *Reader, es []pair) {
	t.Helper()
	if r == nil || r.Len() != len(es) {
		t.Fatalf("Len: %d, want %d", r.Len(), len(es))
	}
	for i, x := range es {
		if k, v, e := r.At(i); k != x.key || v != x.value || e != api.OK {
			t.Fatalf("At(%d): %.20q, %.20q, %d, want %.20q, %.20q", i, k, v, e, x.key, x.value)
		}
	}
	i := 0
	for k, v := range r.All() {
		if i >= len(es) || k != es[i].key || v != es[i].value {
			t.Fatalf("All: %d: %.20q, %.20q", i, k, v)
		}
		i++
	}
	if i != len(es) {
		t.Fatalf("All gives %d entries of %d", i, len(es))
	}
}

// holdsOpen holds Open against the plain one, and tells whether the tile was taken.
func holdsOpen(t *testing.T, tile []byte, raw int) bool {
	t.Helper()
	es, want := plainOpen(tile, raw)
	r, e := Open(tile, raw)
	if e != want || (r == nil) != (want != api.OK) {
		t.Fatalf("Open(%.80x, %d): %d, want %d", tile, raw, e, want)
	}
	if want == api.OK {
		holdsReader(t, r, es)
	}
	return want == api.OK
}

// letters are bytes of few kinds, which begin alike often.
func letters(r *rand.Rand, n, kinds int) string {
	b := make([]byte, n)
	for i := range b {
		b[i] = "abc\x00\xff\x7f\x80"[r.Intn(kinds)]
	}
	return string(b)
}

// someEntries are sorted entries, many of them with alike keys, of keys of up to so many bytes.
func someEntries(r *rand.Rand, n, long int) []pair {
	es := make([]pair, n)
	kinds := 1 + r.Intn(7)
	for i := range es {
		es[i] = pair{letters(r, r.Intn(long+1), kinds), letters(r, r.Intn(8), 7)}
	}
	sort.SliceStable(es, func(i, k int) bool { return es[i].key < es[k].key })
	return es
}
