package foot

import (
	"bytes"
	"encoding/binary"
	"math"
	"math/rand"
	"slices"
	"testing"

	"winnow/api"
)

// 8.3

// refusesTrailer asks for a trailer that is to be refused.
func refusesTrailer(t *testing.T, what string, b []byte, size int64, want api.Errno) {
	t.Helper()
	if tr, e := Trailer(b, size); tr != (api.Trail{}) || e != want {
		t.Errorf("Trailer of %s: %v, %d, want %d", what, tr, e, want)
	}
}

// numbers are those at which a Trail begins or ceases to be one that may be, and wild ones.
func numbers() []int64 {
	out := []int64{math.MinInt64, math.MinInt64 + 1, -1 << 32, -4100, -24, -6, -5, -1, 1 << 32, 1<<32 + 5, 1<<62 + 5, math.MaxInt64 - 30, math.MaxInt64 - 1, math.MaxInt64}
	for _, middle := range []int64{4, 24, 4096, 4100, 4104, 8192, 8200, 1 << 24, 1<<24 - 4096 + 4*4095, 1<<24 + 4*4096, 1 << 28} {
		for d := int64(-6); d < 7; d++ {
			out = append(out, middle+d)
		}
	}
	return out
}

func TestTrailer(t *testing.T) {
	for _, blocks := range numbers() {
		for _, pages := range numbers() {
			b := trailerWith("wnw1", uint64(blocks), uint64(pages))
			want := api.Trail{Blocks: blocks, Pages: pages}
			if !plainTrail(want) {
				refusesTrailer(t, "a Trail that may not be", b, blocks+pages+24, api.ErrTrailer)
				refusesTrailer(t, "a Trail that may not be, of another size", b, 77, api.ErrTrailer)
				continue
			}
			size := blocks + pages + 24
			if tr, e := Trailer(b, size); tr != want || e != api.OK {
				t.Errorf("Trailer of %v: %v, %d", want, tr, e)
			}
			for _, other := range []int64{size - 1, size + 1, size - 24, size + 24, -size, 0, -1, size + 1<<32, size - 1<<32, math.MinInt64, math.MaxInt64} {
				refusesTrailer(t, "another size", b, other, api.ErrLength)
			}
		}
	}
}

func TestTrailerBytes(t *testing.T) {
	right := trailerWith("wnw1", 25, 16)
	if tr, e := Trailer(right, 65); tr != (api.Trail{Blocks: 25, Pages: 16}) || e != api.OK {
		t.Fatalf("Trailer: %v, %d", tr, e)
	}
	for n := range 24 {
		refusesTrailer(t, "too few bytes", right[:n], 65, api.ErrTrailer)
		refusesTrailer(t, "too few bytes", right[n+1:], 65, api.ErrTrailer)
	}
	refusesTrailer(t, "no bytes", nil, 65, api.ErrTrailer)
	refusesTrailer(t, "25 bytes", append(bytes.Clone(right), 0), 65, api.ErrTrailer)
	refusesTrailer(t, "25 bytes", append([]byte{0}, right...), 65, api.ErrTrailer)
	refusesTrailer(t, "two trailers", append(bytes.Clone(right), right...), 65, api.ErrTrailer)
	refusesTrailer(t, "23 bytes with their sum", seal(right[:19]), 65, api.ErrTrailer)
	refusesTrailer(t, "25 bytes with their sum", seal(append(bytes.Clone(right[:20]), 0)), 65, api.ErrTrailer)
	refusesTrailer(t, "zeros", make([]byte, 24), 65, api.ErrTrailer)
	for i := range 24 {
		for bit := range 8 {
			b := bytes.Clone(right)
			b[i] ^= 1 << bit
			refusesTrailer(t, "a turned bit", b, 65, api.ErrTrailer)
			refusesTrailer(t, "a turned bit, of another size", b, 66, api.ErrTrailer)
		}
	}
	for _, magic := range []string{"wnw0", "wnw2", "Wnw1", "wNw1", "wnW1", "\x00\x00\x00\x00", "1wnw", "wnw\xb1"} {
		refusesTrailer(t, "the magic "+magic, trailerWith(magic, 25, 16), 65, api.ErrTrailer)
		refusesTrailer(t, "the magic "+magic+", of another size", trailerWith(magic, 25, 16), 66, api.ErrTrailer)
	}
	swapped := binary.LittleEndian.AppendUint64(nil, 25)
	swapped = append(append(swapped, "wnw1"...), swapped...)
	refusesTrailer(t, "the magic elsewhere", seal(swapped), 65, api.ErrTrailer)
	high := binary.BigEndian.AppendUint64(binary.BigEndian.AppendUint64([]byte("wnw1"), 25), 16)
	refusesTrailer(t, "words with the highest byte first", seal(high), 65, api.ErrTrailer)
}

// 8.4

func TestNewDecoder(t *testing.T) {
	for _, blocks := range numbers() {
		for _, pages := range numbers() {
			tr := api.Trail{Blocks: blocks, Pages: pages}
			d, e := NewDecoder(tr)
			if plainTrail(tr) {
				if d == nil || e != api.OK {
					t.Errorf("NewDecoder of %v: %d", tr, e)
				}
				continue
			}
			if d != nil || e != api.ErrTrailer {
				t.Errorf("NewDecoder of %v: %v, %d", tr, d != nil, e)
			}
			if f, e := Decode(nil, tr); !isZero(f) || e != api.ErrTrailer {
				t.Errorf("Decode with %v: %d", tr, e)
			}
		}
	}
}

// decoder is NewDecoder where it has to be well.
func decoder(t *testing.T, tr api.Trail) *Decoder {
	t.Helper()
	d, e := NewDecoder(tr)
	if d == nil || e != api.OK {
		t.Fatalf("NewDecoder of %v: %d", tr, e)
	}
	return d
}

// takes hands pages over, each of which is to be taken.
func takes(t *testing.T, d *Decoder, pages ...[]byte) {
	t.Helper()
	for i, page := range pages {
		if e := d.Page(page); e != api.OK {
			t.Fatalf("Page %d: %d", i, e)
		}
	}
}

// refuses hands a page over that is to be refused; from then on all is.
func refuses(t *testing.T, what string, d *Decoder, page []byte, pages [][]byte) {
	t.Helper()
	if e := d.Page(page); e != api.ErrFoot {
		t.Errorf("Page, %s: %d", what, e)
	}
	tellsNone(t, what, d)
	for _, page := range pages {
		if e := d.Page(page); e != api.ErrFoot {
			t.Errorf("Page behind a refused one, %s: %d", what, e)
		}
	}
	tellsNone(t, what, d)
}

func tellsNone(t *testing.T, what string, d *Decoder) {
	t.Helper()
	if f, e := d.Foot(); !isZero(f) || e != api.ErrFoot {
		t.Errorf("Foot, %s: %d Infos, %d", what, len(f.Infos), e)
	}
}

func tells(t *testing.T, d *Decoder, want api.Foot) {
	t.Helper()
	for range 3 {
		if f, e := d.Foot(); !alike(f, want) || e != api.OK {
			t.Fatalf("Foot: %d Infos, %d", len(f.Infos), e)
		}
	}
}

// pieces cuts pages, each with bytes of its own.
func pieces(pages []byte) (out [][]byte) {
	for len(pages) > 4100 {
		out = append(out, bytes.Clone(pages[:4100]))
		pages = pages[4100:]
	}
	return append(out, bytes.Clone(pages))
}

func TestDecoder(t *testing.T) {
	for _, n := range []int{13, 100, 4095, 4096, 4097, 8191, 8192, 8193, 20000} {
		f := footOfBody(t, n)
		pages, _, tr := encoded(t, f)
		list := pieces(pages)
		d := decoder(t, tr)
		for i, page := range list {
			tellsNone(t, "with pages that lack", d)
			tellsNone(t, "asked again", d)
			takes(t, d, page)
			if i+1 < len(list) {
				tellsNone(t, "with pages that lack", d)
			}
		}
		tells(t, d, f)
		for _, page := range [][]byte{nil, {}, list[0], list[len(list)-1], make([]byte, 4), make([]byte, 4100)} {
			d := decoder(t, tr)
			takes(t, d, list...)
			tells(t, d, f)
			refuses(t, "one too many", d, page, list)
		}
	}
}

func TestDecoderRefuses(t *testing.T) {
	for _, n := range []int{13, 4096, 4097, 12288, 12300} {
		pages, _, tr := encoded(t, footOfBody(t, n))
		list := pieces(pages)
		for at, page := range list {
			turned := bytes.Clone(page)
			turned[len(page)/2] ^= 0x20
			sum := bytes.Clone(page)
			sum[len(page)-1] ^= 1
			for what, wrong := range map[string][]byte{
				"no bytes":              nil,
				"a sum alone":           make([]byte, 4),
				"a byte fewer":          page[:len(page)-1],
				"a byte fewer, ahead":   page[1:],
				"a byte more":           append(bytes.Clone(page), 0),
				"fewer with their sum":  seal(page[:len(page)-5]),
				"more with their sum":   seal(page[:len(page)-3]),
				"a page and once more":  append(bytes.Clone(page), page...),
				"a turned bit":          turned,
				"a turned bit of a sum": sum,
				"zeros":                 make([]byte, len(page)),
			} {
				d := decoder(t, tr)
				takes(t, d, list[:at]...)
				refuses(t, what, d, wrong, list)
			}
			for other := range list {
				if len(list[other]) != len(page) {
					d := decoder(t, tr)
					takes(t, d, list[:at]...)
					refuses(t, "another page's length", d, list[other], list)
				}
			}
		}
	}
}

// A footer that ends with a page is none as long as another page lacks, and none behind it.
func TestDecoderLacks(t *testing.T) {
	f := footOfBody(t, 4096)
	pages, _, tr := encoded(t, f)
	for _, more := range [][]byte{{0}, make([]byte, 4096), plainBody(f)} {
		d := decoder(t, api.Trail{Blocks: tr.Blocks, Pages: 4100 + int64(len(more)) + 4})
		takes(t, d, pages)
		tellsNone(t, "with a page that lacks", d)
		takes(t, d, seal(more))
		tellsNone(t, "with a page behind the footer", d)
	}
}

// Pages in another order are all taken, as each is whole, but they tell no footer, or another one.
func TestDecoderOrder(t *testing.T) {
	f := footOfBody(t, 12288)
	pages, _, tr := encoded(t, f)
	list := pieces(pages)
	d := decoder(t, tr)
	takes(t, d, list[1], list[0], list[2])
	tellsNone(t, "with pages in another order", d)
	d = decoder(t, tr)
	takes(t, d, list[0], list[0], list[0])
	tellsNone(t, "with one page alone", d)
}

func TestDecoderNil(t *testing.T) {
	var d *Decoder
	for _, page := range [][]byte{nil, {1}, seal([]byte{1, 0})} {
		if e := d.Page(page); e != api.ErrNil {
			t.Errorf("Page of a nil decoder: %d", e)
		}
	}
	if f, e := d.Foot(); !isZero(f) || e != api.ErrNil {
		t.Errorf("Foot of a nil decoder: %d", e)
	}
	zero := &Decoder{}
	if e := zero.Page(nil); e != api.ErrFoot {
		t.Errorf("Page of a zero decoder: %d", e)
	}
	tellsNone(t, "of a zero decoder", zero)
	tellsNone(t, "of a fresh zero decoder", &Decoder{})
}

// Decoders know nothing of one another.
func TestDecodersApart(t *testing.T) {
	a, b := footOfBody(t, 9000), footOfBody(t, 12288)
	pagesA, _, trA := encoded(t, a)
	pagesB, _, trB := encoded(t, b)
	listA, listB := pieces(pagesA), pieces(pagesB)
	da, db, dc := decoder(t, trA), decoder(t, trB), decoder(t, trB)
	for i := range 3 {
		takes(t, da, listA[i])
		takes(t, db, listB[i])
		refuses(t, "a decoder beside others", dc, nil, nil)
	}
	tells(t, da, a)
	tells(t, db, b)
	tellsNone(t, "a decoder beside others", dc)
	tells(t, da, a)
}

// 8.5

func refusesPages(t *testing.T, what string, pages []byte, tr api.Trail, want api.Errno) {
	t.Helper()
	if f, e := Decode(pages, tr); !isZero(f) || e != want {
		t.Errorf("Decode of %s: %d Infos, %d, want %d", what, len(f.Infos), e, want)
	}
}

func TestDecode(t *testing.T) {
	for _, n := range []int{13, 4095, 4096, 4097, 8192, 8193, 30000} {
		f := footOfBody(t, n)
		pages, trailer, tr := encoded(t, f)
		if got, e := Decode(pages, tr); !alike(got, f) || e != api.OK {
			t.Fatalf("Decode of a body of %d bytes: %d", n, e)
		}
		refusesPages(t, "no bytes", nil, tr, api.ErrFoot)
		refusesPages(t, "a byte fewer", pages[:len(pages)-1], tr, api.ErrFoot)
		refusesPages(t, "a byte fewer, ahead", pages[1:], tr, api.ErrFoot)
		refusesPages(t, "a byte more", append(bytes.Clone(pages), 0), tr, api.ErrFoot)
		refusesPages(t, "a byte more, ahead", append([]byte{0}, pages...), tr, api.ErrFoot)
		refusesPages(t, "the trailer, too", append(bytes.Clone(pages), trailer...), tr, api.ErrFoot)
		refusesPages(t, "all twice", append(bytes.Clone(pages), pages...), tr, api.ErrFoot)
		refusesPages(t, "the last page alone", pages[(len(pages)-1)/4100*4100+1:], tr, api.ErrFoot)
		for _, blocks := range []int64{0, tr.Blocks - 1, tr.Blocks + 1, tr.Blocks - 5, tr.Blocks + 6, 1 << 28} {
			refusesPages(t, "other bytes of blocks", pages, api.Trail{Blocks: blocks, Pages: tr.Pages}, api.ErrFoot)
		}
		for _, blocks := range []int64{-1, 1<<28 + 1, math.MaxInt64, math.MinInt64, tr.Blocks + math.MinInt64} {
			refusesPages(t, "blocks that may not be", pages, api.Trail{Blocks: blocks, Pages: tr.Pages}, api.ErrTrailer)
			refusesPages(t, "blocks that may not be, without pages", nil, api.Trail{Blocks: blocks, Pages: tr.Pages}, api.ErrTrailer)
		}
		for _, size := range []int64{0, 4, -1, 4101, 4104, 1<<24 + 4*4096 + 1, tr.Pages + math.MinInt64, math.MaxInt64} {
			refusesPages(t, "pages that may not be", pages, api.Trail{Blocks: tr.Blocks, Pages: size}, api.ErrTrailer)
			refusesPages(t, "pages that may not be, of that length", make([]byte, max(min(size, 5000), 0)), api.Trail{Blocks: tr.Blocks, Pages: size}, api.ErrTrailer)
		}
		for i := 0; i < len(pages); i += 1 + i/40 {
			b := bytes.Clone(pages)
			b[i] ^= 4
			refusesPages(t, "a turned bit", b, tr, api.ErrFoot)
		}
	}
	refusesPages(t, "as many pages as may be, of zeros", make([]byte, 1<<24+4*4096), api.Trail{Pages: 1<<24 + 4*4096}, api.ErrFoot)
	refusesPages(t, "as many pages as may be, without any", nil, api.Trail{Pages: 1<<24 + 4*4096}, api.ErrFoot)
}

// sliced tells what a decoder says to which pages are handed as 8.5 says.
func sliced(pages []byte, tr api.Trail) (api.Foot, api.Errno) {
	d, e := NewDecoder(tr)
	if e != api.OK {
		return api.Foot{}, e
	}
	if int64(len(pages)) != tr.Pages {
		return api.Foot{}, api.ErrFoot
	}
	for _, page := range pieces(pages) {
		if e := d.Page(page); e != api.OK {
			return api.Foot{}, e
		}
	}
	return d.Foot()
}

// holdsDecode hands a body over as whole pages: to Decode and to a decoder, against the plain reading; and what is taken is told by Encode byte for byte.
func holdsDecode(t *testing.T, body []byte, blocks int64) bool {
	t.Helper()
	pages := plainPages(body)
	tr := api.Trail{Blocks: blocks, Pages: int64(len(pages))}
	want, ok := plainRead(body)
	wantE := api.OK
	if !ok || plainBlocks(want) != blocks {
		want, wantE = api.Foot{}, api.ErrFoot
	}
	if f, e := Decode(pages, tr); !alike(f, want) || e != wantE {
		t.Fatalf("Decode of the body %x with %d: %d Infos, %d, want %d", body, blocks, len(f.Infos), e, wantE)
	}
	if f, e := sliced(pages, tr); !alike(f, want) || e != wantE {
		t.Fatalf("the decoder of the body %x with %d: %d Infos, %d, want %d", body, blocks, len(f.Infos), e, wantE)
	}
	if wantE != api.OK {
		return false
	}
	if b, e := Encode(want); e != api.OK || !bytes.Equal(b, append(pages, trailerWith("wnw1", uint64(blocks), uint64(len(pages)))...)) {
		t.Fatalf("Encode of what Decode told of %x: %x, %d", body, b, e)
	}
	return true
}

// holdsBody is holdsDecode with the bytes that the blocks have by the body itself, and with some others.
func holdsBody(t *testing.T, body []byte, others ...int64) bool {
	t.Helper()
	if len(body) == 0 {
		return false
	}
	f, _ := plainRead(body)
	taken := holdsDecode(t, body, min(plainBlocks(f), 1<<28))
	for _, blocks := range others {
		holdsDecode(t, body, blocks)
	}
	return taken
}

func TestBodies(t *testing.T) {
	for a := range 256 {
		holdsBody(t, []byte{byte(a)}, 1)
		for b := range 256 {
			holdsBody(t, []byte{byte(a), byte(b)})
		}
	}
	for _, f := range small() {
		body, blocks := plainBody(f), plainBlocks(f)
		if !holdsBody(t, body, max(blocks-1, 0), blocks+1, 0) {
			t.Fatalf("Decode takes the body %x not", body)
		}
	}
}

// Each byte is made another one, left out, or said twice; bytes lack or are left at the end.
func TestBodiesChanged(t *testing.T) {
	taken := 0
	for _, f := range small() {
		body, blocks := plainBody(f), plainBlocks(f)
		for i := range body {
			for c := range 256 {
				b := bytes.Clone(body)
				b[i] = byte(c)
				if holdsBody(t, b, blocks) {
					taken++
				}
			}
			for _, c := range []byte{0, 1, 2, 0x3f, 0x40, 0x41, 0x7f, 0x80, 0x81, 0xff} {
				holdsBody(t, slices.Insert(bytes.Clone(body), i, c), blocks)
			}
			holdsBody(t, slices.Delete(bytes.Clone(body), i, i+1), blocks)
			if i > 0 && holdsBody(t, body[:i], blocks) {
				t.Errorf("Decode takes %d bytes of the body %x", i, body)
			}
		}
		for c := range 256 {
			if holdsBody(t, append(bytes.Clone(body), byte(c)), blocks) {
				t.Errorf("Decode takes the body %x with %x behind it", body, c)
			}
		}
		if holdsBody(t, append(bytes.Clone(body), body...), blocks) {
			t.Errorf("Decode takes the body %x twice", body)
		}
	}
	if taken < 1000 {
		t.Errorf("only %d changed bodies are bodies", taken)
	}
}

// Each number is made another one, or written with needless bytes.
func TestBodiesNumbers(t *testing.T) {
	for _, f := range small() {
		all, blocks := plainPieces(f), plainBlocks(f)
		for i, p := range all {
			if !p.isNumber {
				continue
			}
			with := func(b []byte) []byte {
				list := slices.Clone(all)
				list[i].bytes = b
				return joined(list)
			}
			value, _ := binary.Uvarint(p.bytes)
			for needless := 1; needless < 9; needless++ {
				b := bytes.Clone(p.bytes)
				b[len(b)-1] |= 0x80
				b = append(b, bytes.Repeat([]byte{0x80}, needless-1)...)
				if holdsBody(t, with(append(b, 0)), blocks) {
					t.Errorf("Decode takes a number with %d needless bytes", needless)
				}
			}
			for _, v := range []uint64{
				0, 1, 2, 63, 64, 65, 127, 128, 4099, 4100, 65534, 65535, 65536, 65537, 1 << 18, 1<<18 + 1, 1 << 24, 1 << 31, 1 << 32, 1<<32 + value, 1 << 62, 1<<63 - 1,
				1 << 63, 1<<63 + value, math.MaxUint64, value - 1, value + 1, value + 65536, value + 65535, -value,
			} {
				holdsBody(t, with(binary.AppendUvarint(nil, v)), blocks)
			}
		}
	}
}

// A common beginning may be told no shorter and no longer than it is, and not of the partition ahead.
func TestBodiesCommon(t *testing.T) {
	bodyOf := func(second string) []byte {
		return []byte("\x01\x01\x00\x01\xff\x02" + "\x01\x01\x01\x00\x03abc" + "\x01\x01\x01" + second)
	}
	for second, want := range map[string]bool{
		"\x02\x01d": true, "\x01\x02bd": false, "\x00\x03abd": false,
		"\x03\x00": true, "\x02\x01c": false, "\x00\x03abc": false, "\x03\x01a": true, "\x02\x02ca": false,
		"\x00\x01b": true, "\x04\x00": false, "\x04\x01a": false, "\x7f\x00": false, "\x02\x00": false, "\x01\x01a": false,
		"\x03\x3d" + string(bytes.Repeat([]byte("x"), 61)): true, "\x03\x3e" + string(bytes.Repeat([]byte("x"), 62)): false,
		"\x00\x40" + string(bytes.Repeat([]byte("x"), 64)): true, "\x00\x41" + string(bytes.Repeat([]byte("x"), 65)): false,
	} {
		if holdsBody(t, bodyOf(second), 12) != want {
			t.Errorf("Decode of the second block's %q: %v", second, !want)
		}
	}
	apart := func(second string) []byte {
		return []byte("\x02\x02" + "\x00\x01\xff\x01" + "\x01\x01\x01\x00\x03abc" + "\x00\x01\xff\x01" + "\x01\x01\x01" + second)
	}
	for second, want := range map[string]bool{"\x00\x03abd": true, "\x02\x01d": false, "\x03\x00": false, "\x00\x03abc": true, "\x01\x02bc": false} {
		if holdsBody(t, apart(second), 12) != want {
			t.Errorf("Decode of the second partition's %q: %v", second, !want)
		}
	}
}

func TestBodiesRandom(t *testing.T) {
	r := rand.New(rand.NewSource(85))
	for range 2000 {
		f := randomFoot(r)
		body, blocks := plainBody(f), plainBlocks(f)
		if !holdsBody(t, body) {
			t.Fatalf("Decode takes the body %x not", body)
		}
		for range 5 {
			b := bytes.Clone(body)
			b[r.Intn(min(len(b), 40))] = byte(r.Intn(256))
			b[r.Intn(len(b))] = []byte{0, 1, 2, 127, 128, 255}[r.Intn(6)]
			holdsBody(t, b, blocks)
		}
	}
	for range 20000 {
		b := make([]byte, 1+r.Intn(40))
		for i := range b {
			b[i] = byte(r.Intn([]int{2, 4, 256}[r.Intn(3)]))
		}
		holdsBody(t, b, int64(r.Intn(50)))
	}
}

// Bodies that claim much and have little end soon.
func TestBodiesClaims(t *testing.T) {
	most := "\xff\xff\x03" // 65535
	for _, body := range []string{
		most + most, most + most + "\x00", most + most + "\x00\x01\xff\x80\x80\x10", most + most + "\x00\x01\xff\x80\x80\x10\x01\x01\x01\x00\x00",
		"\x01\x01\x00\x01\xff\x81\x80\x10\x01\x01\x01\x00\x00", "\x01\x01\x00\x01\xff\xff\xff\xff\xff\xff\xff\xff\xff\x7f",
		"\x01\x01\x00\xff\xff\xff\xff\xff\xff\xff\xff\x7f", "\x01\x01\x00\x01\xff\x01\x01\x01\x01\x00\xff\xff\xff\xff\xff\xff\xff\xff\x7f",
	} {
		if holdsBody(t, []byte(body), 0, 6) {
			t.Errorf("Decode takes %x", body)
		}
	}
	// as many Infos as may be, with the widest steps, come to Parts beyond all bounds
	wide := []byte(most + most)
	for range 65535 {
		wide = append(wide, "\xfe\xff\x03\x01\xff\x01\x01\x01\x01\x00\x00"...)
	}
	holdsBody(t, wide, 6*65535)
	// more blocks than may be, over two Infos
	over := []byte("\x02\x02")
	for _, count := range []string{"\x80\x80\x10", "\x01"} {
		over = append(over, "\x00\x01\xff"+count...)
		for range map[string]int{"\x80\x80\x10": 1 << 18, "\x01": 1}[count] {
			over = append(over, "\x01\x01\x01\x00\x00"...)
		}
	}
	if holdsBody(t, over, 6*(1<<18+1)) {
		t.Errorf("Decode takes more blocks than may be")
	}
}

// 8.9

// rounds holds a footer against what Trailer and Decode take back.
func rounds(t *testing.T, f api.Foot) {
	t.Helper()
	pages, trailer, want := encoded(t, f)
	tr, e := Trailer(trailer, plainBlocks(f)+int64(len(pages))+24)
	if tr != want || e != api.OK {
		t.Fatalf("Trailer: %v, %d, want %v", tr, e, want)
	}
	got, e := Decode(pages, tr)
	if !alike(got, f) || e != api.OK {
		t.Fatalf("Decode: %d Infos of %d, %d", len(got.Infos), len(f.Infos), e)
	}
	if b, e := Encode(got); e != api.OK || !bytes.Equal(b, append(pages, trailer...)) {
		t.Fatalf("Encode of what was decoded: %d bytes, %d", len(b), e)
	}
}

func TestRound(t *testing.T) {
	for _, f := range small() {
		rounds(t, f)
	}
	r := rand.New(rand.NewSource(89))
	for range 3000 {
		rounds(t, randomFoot(r))
	}
	for _, n := range []int{13, 4095, 4096, 4097, 8191, 8192, 8193, 1<<24 - 1, 1 << 24} {
		rounds(t, footOfBody(t, n))
	}
	for _, n := range []int{1<<28 - 1, 1 << 28} {
		rounds(t, blocksOf(n))
	}
	rounds(t, one(1, info(0, many(1<<18)...)))
	rounds(t, api.Foot{Parts: 65535, Infos: []api.PartInfo{info(0, many(1<<17)...), info(65534, many(1<<17)...)}})
	rounds(t, one(65535, api.PartInfo{Part: 65534, Blocks: many(1), Filter: api.Filter{Hashes: 8, Data: data(4096)}}))
	all := api.Foot{Parts: 65535}
	for part := range 65535 {
		all.Infos = append(all.Infos, info(part, block(1, 1, 1, "")))
	}
	rounds(t, all)
}

// 8.11

// burst turns bits from one on, within 32 neighbouring ones; the first is turned.
func burst(tile []byte, from int, mask uint32) {
	mask |= 1
	for i := range 32 {
		if at := from + i; mask>>i&1 == 1 && at < 8*len(tile) {
			tile[at/8] ^= 1 << (at % 8)
		}
	}
}

// isRefused tells whether Trailer or Decode refuses.
func isRefused(t *testing.T, b []byte, size int64) bool {
	t.Helper()
	seam := len(b) - 24
	tr, e := Trailer(b[seam:], size)
	if e != api.OK {
		return true
	}
	f, e := Decode(b[:seam], tr)
	return e != api.OK && isZero(f)
}

func TestDamage(t *testing.T) {
	r := rand.New(rand.NewSource(811))
	list := small()
	for _, n := range []int{4096, 4097, 9000} {
		list = append(list, footOfBody(t, n))
	}
	for _, f := range list {
		whole, _ := Encode(f)
		size := plainBlocks(f) + int64(len(whole))
		if isRefused(t, whole, size) {
			t.Fatalf("what is whole is refused")
		}
		var tiles []api.Tile
		for _, tile := range Tiles(f) {
			if tile.Kind != api.TileBlock {
				tiles = append(tiles, api.Tile{From: tile.From - plainBlocks(f), To: tile.To - plainBlocks(f)})
			}
		}
		for range 3000 {
			b := bytes.Clone(whole)
			hit := r.Intn(len(tiles)) // this one, and each other one by chance
			for i, tile := range tiles {
				if i == hit || r.Intn(3) == 0 {
					mask := uint32([]uint64{0, math.MaxUint32, uint64(r.Uint32())}[r.Intn(3)])
					burst(b[tile.From:tile.To], r.Intn(8*int(tile.To-tile.From)), mask)
				}
			}
			if !isRefused(t, b, size) {
				t.Fatalf("damage is not found: %x of %x", b, whole)
			}
		}
	}
	whole, _ := Encode(example())
	for bit := range 8 * len(whole) {
		b := bytes.Clone(whole)
		b[bit/8] ^= 1 << (bit % 8)
		if !isRefused(t, b, 65) {
			t.Errorf("the turned bit %d is not found", bit)
		}
	}
}

// R1: whatever is handed in, each call ends, and what is beside an error is zero.
func TestAnyBytes(t *testing.T) {
	r := rand.New(rand.NewSource(801))
	for range 20000 {
		b := make([]byte, r.Intn(60))
		r.Read(b)
		if tr, e := Trailer(b, int64(r.Intn(100))); tr != (api.Trail{}) || e != api.ErrTrailer {
			t.Fatalf("Trailer of %x: %v, %d", b, tr, e)
		}
		tr := api.Trail{Blocks: int64(r.Intn(100)), Pages: int64(len(b))}
		if f, e := Decode(b, tr); !isZero(f) || e == api.OK {
			t.Fatalf("Decode of %x: %d", b, e)
		}
	}
}
