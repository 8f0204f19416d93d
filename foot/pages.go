package foot

import (
	"slices"

	"winnow/api"
	"winnow/crc"
	"winnow/nums"
)

// How many bytes the parts of a file have: the sum of a tile, a page that is not the last; the magic, a fixed word, and with a sum the whole trailer.
const (
	sumSize     = 4
	pageSize    = api.MaxPage + sumSize
	magicSize   = 4
	wordSize    = 8
	trailerSize = magicSize + 2*wordSize + sumSize
)

// pagesSize tells how many bytes the pages of a body of so many bytes have.
func pagesSize(body int64) int64 {
	pages := (body + api.MaxPage - 1) / api.MaxPage
	return body + pages*sumSize
}

// sealPages cuts a body into pages.
func sealPages(body []byte) []byte {
	out := make([]byte, 0, pagesSize(int64(len(body))))
	var piece [api.MaxPage]byte
	for len(body) > 0 {
		size := copy(piece[:], body)
		out = append(out, crc.Seal(piece[:size])...)
		body = body[size:]
	}
	return out
}

// isTrail tells whether a Trail may be: the last page has a byte at least beside its sum.
func isTrail(t api.Trail) bool {
	if t.Blocks < 0 || t.Blocks > api.MaxBlob || t.Pages < 1 || t.Pages > pagesSize(api.MaxFoot) {
		return false
	}
	last := (t.Pages-1)%pageSize + 1
	return last > sumSize
}

// sealTrail tells the trailer.
func sealTrail(t api.Trail) []byte {
	out := []byte(api.Magic)
	out = append(out, nums.Fixed(uint64(t.Blocks), wordSize)...)
	out = append(out, nums.Fixed(uint64(t.Pages), wordSize)...)
	return crc.Seal(out)
}

// Trailer reads the last bytes of a file of so many.
func Trailer(b []byte, size int64) (api.Trail, api.Errno) {
	if len(b) != trailerSize {
		return api.Trail{}, api.ErrTrailer
	}
	words, err := crc.Open(b)
	if err != api.OK {
		return api.Trail{}, api.ErrTrailer
	}
	c := nums.NewCursor(words)
	magic := string(c.Take(magicSize))
	t := api.Trail{Blocks: int64(c.Fixed(wordSize)), Pages: int64(c.Fixed(wordSize))}
	if magic != api.Magic || !isTrail(t) {
		return api.Trail{}, api.ErrTrailer
	}
	if t.Blocks+t.Pages+trailerSize != size {
		return api.Trail{}, api.ErrLength
	}
	return t, api.OK
}

// Decoder gathers pages.
type Decoder struct {
	trail   api.Trail
	taken   int64  // how many bytes of the pages have come
	body    []byte // what was in them
	refused bool
}

// NewDecoder makes one, for the pages that a trailer tells of.
func NewDecoder(t api.Trail) (*Decoder, api.Errno) {
	if !isTrail(t) {
		return nil, api.ErrTrailer
	}
	return &Decoder{trail: t}, api.OK
}

// Page takes the next page, a whole tile.
func (d *Decoder) Page(page []byte) api.Errno {
	if d == nil {
		return api.ErrNil
	}
	size := min(pageSize, d.trail.Pages-d.taken)
	if d.refused || size == 0 || int64(len(page)) != size {
		return d.refuse()
	}
	piece, err := crc.Open(page)
	if err != api.OK {
		return d.refuse()
	}
	d.body = append(d.body, piece...)
	d.taken += size
	return api.OK
}

// refuse lets the bytes go, too: no later call shows them.
func (d *Decoder) refuse() api.Errno {
	d.refused = true
	d.body = nil
	return api.ErrFoot
}

// Foot tells the footer behind the last page. It is read anew each time, as the caller may write into it.
func (d *Decoder) Foot() (api.Foot, api.Errno) {
	if d == nil {
		return api.Foot{}, api.ErrNil
	}
	if d.refused || d.taken != d.trail.Pages {
		return api.Foot{}, api.ErrFoot
	}
	f, ok := readBody(d.body)
	if !ok || !isRight(f) || blocksSize(f) != d.trail.Blocks {
		return api.Foot{}, api.ErrFoot
	}
	return f, api.OK
}

// Decode reads all pages.
func Decode(pages []byte, t api.Trail) (api.Foot, api.Errno) {
	d, err := NewDecoder(t)
	if err != api.OK {
		return api.Foot{}, err
	}
	if int64(len(pages)) != t.Pages {
		return api.Foot{}, api.ErrFoot
	}
	for page := range slices.Chunk(pages, pageSize) {
		if err := d.Page(page); err != api.OK {
			return api.Foot{}, err
		}
	}
	return d.Foot()
}
