package foot

import (
	"bytes"
	"encoding/binary"
	"hash/crc32"
	"math/rand"
	"slices"
	"strings"
	"testing"

	"winnow/api"
)

// The calls have these signatures, to the letter.
var (
	_ func(api.Foot) api.Errno                          = Check
	_ func(api.Foot) ([]byte, api.Errno)                = Encode
	_ func([]byte, int64) (api.Trail, api.Errno)        = Trailer
	_ func(api.Trail) (*Decoder, api.Errno)             = NewDecoder
	_ func(*Decoder, []byte) api.Errno                  = (*Decoder).Page
	_ func(*Decoder) (api.Foot, api.Errno)              = (*Decoder).Foot
	_ func([]byte, api.Trail) (api.Foot, api.Errno)     = Decode
	_ func(api.Foot) []api.Tile                         = Tiles
	_ func(f api.Foot, part int, key string) (int, int) = Find
)

// plainFilter tells a filter's bytes by chapter 7, nil if it may not be.
func plainFilter(f api.Filter) []byte {
	without := f.Hashes == 0 && len(f.Data) == 0
	switch {
	case f.All && without:
		return []byte{255}
	case !f.All && without:
		return []byte{0}
	case !f.All && f.Hashes > 0 && f.Hashes < 9 && len(f.Data) > 0 && len(f.Data) < 4097:
		b := binary.AppendUvarint([]byte{byte(f.Hashes)}, uint64(len(f.Data)))
		return append(b, f.Data...)
	}
	return nil
}

// plainCheck goes by the words of 'a footer is right'.
func plainCheck(f api.Foot) bool {
	if f.Parts < 1 || f.Parts > 65535 {
		return false
	}
	all := 0
	for i, info := range f.Infos {
		if info.Part < 0 || info.Part > f.Parts-1 || i > 0 && info.Part <= f.Infos[i-1].Part {
			return false
		}
		if len(info.Blocks) == 0 || plainFilter(info.Filter) == nil {
			return false
		}
		all += len(info.Blocks)
		for k, b := range info.Blocks {
			if b.Stored < 1 || b.Stored > 65536 || b.Raw < 1 || b.Raw > 65536 || b.Raw > 64*b.Stored {
				return false
			}
			if b.Count < 1 || b.Count > b.Raw || len(b.Cut) > 64 || k > 0 && b.Cut < info.Blocks[k-1].Cut {
				return false
			}
		}
	}
	return all <= 262144
}

// piece is a number or a text of a body.
type piece struct {
	bytes    []byte
	isNumber bool
}

// plainPieces tells the pieces of a footer's body, by the words of 'The body'.
func plainPieces(f api.Foot) []piece {
	var out []piece
	number := func(n int) {
		out = append(out, piece{binary.AppendUvarint(nil, uint64(n)), true})
	}
	text := func(s string) {
		number(len(s))
		out = append(out, piece{bytes: []byte(s)})
	}
	number(f.Parts)
	number(len(f.Infos))
	for i, info := range f.Infos {
		ahead := -1
		if i > 0 {
			ahead = f.Infos[i-1].Part
		}
		number(info.Part - ahead - 1)
		text(string(plainFilter(info.Filter)))
		number(len(info.Blocks))
		for k, b := range info.Blocks {
			common := 0
			for k > 0 && common < len(b.Cut) && strings.HasPrefix(info.Blocks[k-1].Cut, b.Cut[:common+1]) {
				common++
			}
			number(b.Stored)
			number(b.Raw)
			number(b.Count)
			number(common)
			text(b.Cut[common:])
		}
	}
	return out
}

func joined(pieces []piece) []byte {
	var out []byte
	for _, p := range pieces {
		out = append(out, p.bytes...)
	}
	return out
}

func plainBody(f api.Foot) []byte {
	return joined(plainPieces(f))
}

// plainBlocks tells the bytes of the blocks.
func plainBlocks(f api.Foot) int64 {
	sum := int64(0)
	for _, info := range f.Infos {
		for _, b := range info.Blocks {
			sum += int64(b.Stored) + 5
		}
	}
	return sum
}

func seal(b []byte) []byte {
	sum := crc32.Checksum(b, crc32.MakeTable(crc32.Castagnoli))
	return binary.LittleEndian.AppendUint32(bytes.Clone(b), sum)
}

// plainPages tells the pages of a body.
func plainPages(body []byte) []byte {
	var out []byte
	for len(body) > 4096 {
		out = append(out, seal(body[:4096])...)
		body = body[4096:]
	}
	return append(out, seal(body)...)
}

// trailerWith tells a trailer of any two numbers.
func trailerWith(magic string, blocks, pages uint64) []byte {
	b := binary.LittleEndian.AppendUint64([]byte(magic), blocks)
	return seal(binary.LittleEndian.AppendUint64(b, pages))
}

// plainEncode goes by the words of 8.2.
func plainEncode(f api.Foot) ([]byte, api.Errno) {
	if !plainCheck(f) {
		return nil, api.ErrFoot
	}
	body, blocks := plainBody(f), plainBlocks(f)
	if len(body) > 1<<24 || blocks > 1<<28 {
		return nil, api.ErrFull
	}
	pages := plainPages(body)
	return append(pages, trailerWith("wnw1", uint64(blocks), uint64(len(pages)))...), api.OK
}

// plainTrail looks for a number of pages that a body with so many bytes of pages could have.
func plainTrail(t api.Trail) bool {
	if t.Blocks < 0 || t.Blocks > 1<<28 {
		return false
	}
	for count := int64(1); 4096*count <= 1<<24; count++ {
		least, most := 4096*(count-1)+1, 4096*count
		if t.Pages >= least+4*count && t.Pages <= most+4*count {
			return true
		}
	}
	return false
}

// plainReader goes through a body, and takes numbers that are longer than they could be, too.
type plainReader struct {
	left []byte
	bad  bool
}

func (r *plainReader) number() int {
	v, size := binary.Uvarint(r.left)
	if size <= 0 || v > 1<<24 {
		r.bad, r.left = true, nil
		return 0
	}
	r.left = r.left[size:]
	return int(v)
}

func (r *plainReader) text() string {
	n := r.number()
	if n > len(r.left) {
		r.bad, r.left = true, nil
		return ""
	}
	s := string(r.left[:n])
	r.left = r.left[n:]
	return s
}

func (r *plainReader) filter() (f api.Filter) {
	s := r.text()
	switch {
	case s == "\xff":
		f.All = true
	case s != "" && s != "\x00":
		in := plainReader{left: []byte(s[1:])}
		f.Hashes, f.Data = int(s[0]), []byte(in.text())
	}
	return f
}

func (r *plainReader) block(ahead string) (b api.BlockInfo) {
	b.Stored, b.Raw, b.Count = r.number(), r.number(), r.number()
	common := r.number()
	rest := r.text()
	if common > len(ahead) {
		r.bad, r.left = true, nil
		return b
	}
	b.Cut = ahead[:common] + rest
	return b
}

// plainRead tells the right footer whose body this is: it takes what stands there without asking much, and holds the body of that against it.
func plainRead(body []byte) (api.Foot, bool) {
	r := plainReader{left: body}
	f := api.Foot{Parts: r.number()}
	part := -1
	for n := r.number(); n > 0 && !r.bad; n-- {
		part += r.number() + 1
		info := api.PartInfo{Part: part, Filter: r.filter()}
		ahead := ""
		for k := r.number(); k > 0 && !r.bad; k-- {
			b := r.block(ahead)
			info.Blocks = append(info.Blocks, b)
			ahead = b.Cut
		}
		f.Infos = append(f.Infos, info)
	}
	if r.bad || !plainCheck(f) || !bytes.Equal(plainBody(f), body) {
		return api.Foot{}, false
	}
	return f, true
}

// plainTiles goes by the words of 8.6.
func plainTiles(f api.Foot) []api.Tile {
	b, e := plainEncode(f)
	if e != api.OK {
		return nil
	}
	var out []api.Tile
	at := int64(0)
	for _, info := range f.Infos {
		for _, b := range info.Blocks {
			out = append(out, api.Tile{Kind: 0, From: at, To: at + int64(b.Stored) + 5})
			at += int64(b.Stored) + 5
		}
	}
	for left := int64(len(b)) - 24; left > 0; left -= 4100 {
		out = append(out, api.Tile{Kind: 1, From: at, To: at + min(left, 4100)})
		at += min(left, 4100)
	}
	return append(out, api.Tile{Kind: 2, From: at, To: at + 24})
}

// plainFind goes by the words of 8.7.
func plainFind(f api.Foot, part int, key string) (int, int) {
	if len(key) > 64 {
		key = key[:64]
	}
	for i, info := range f.Infos {
		if info.Part != part {
			continue
		}
		at := 0
		for k, b := range info.Blocks {
			if b.Cut < key {
				at = k
			}
		}
		return i, at
	}
	return -1, 0
}

// alike tells whether two footers are the same; no list and an empty one are.
func alike(a, b api.Foot) bool {
	return a.Parts == b.Parts && slices.EqualFunc(a.Infos, b.Infos, func(a, b api.PartInfo) bool {
		return a.Part == b.Part && slices.Equal(a.Blocks, b.Blocks) &&
			a.Filter.All == b.Filter.All && a.Filter.Hashes == b.Filter.Hashes && bytes.Equal(a.Filter.Data, b.Filter.Data)
	})
}

// isZero tells whether a footer is the zero one, as beside an error.
func isZero(f api.Foot) bool {
	return f.Parts == 0 && len(f.Infos) == 0
}

// copied tells a footer that shares no memory with f.
func copied(f api.Foot) api.Foot {
	f.Infos = slices.Clone(f.Infos)
	for i := range f.Infos {
		f.Infos[i].Blocks = slices.Clone(f.Infos[i].Blocks)
		f.Infos[i].Filter.Data = bytes.Clone(f.Infos[i].Filter.Data)
	}
	return f
}

func block(stored, raw, count int, cut string) api.BlockInfo {
	return api.BlockInfo{Stored: stored, Raw: raw, Count: count, Cut: cut}
}

// info has a filter that denies nothing.
func info(part int, blocks ...api.BlockInfo) api.PartInfo {
	return api.PartInfo{Part: part, Blocks: blocks, Filter: api.Filter{All: true}}
}

// cuts tells blocks that have these Cuts.
func cuts(list ...string) []api.BlockInfo {
	var out []api.BlockInfo
	for i, cut := range list {
		out = append(out, block(i%100+1, i%64+1, 1, cut))
	}
	return out
}

// one tells a footer of one Info.
func one(parts int, i api.PartInfo) api.Foot {
	return api.Foot{Parts: parts, Infos: []api.PartInfo{i}}
}

// many tells n of the least blocks.
func many(n int) []api.BlockInfo {
	return slices.Repeat([]api.BlockInfo{block(1, 1, 1, "")}, n)
}

// data tells so many bytes of a filter.
func data(n int) []byte {
	out := make([]byte, n)
	for i := range out {
		out[i] = byte(i*7 + n)
	}
	return out
}

// example is the first one of the document.
func example() api.Foot {
	return one(3, info(1, block(20, 30, 2, "a")))
}

// small are right footers with short bodies, of each kind and with each edge.
func small() []api.Foot {
	k := strings.Repeat("k", 63)
	bits := api.Filter{Hashes: 3, Data: []byte{1, 0x80}}
	return []api.Foot{
		{Parts: 1},
		{Parts: 127}, {Parts: 128}, {Parts: 65535},
		example(),
		one(1, info(0, block(1, 1, 1, ""))),
		one(65535, info(65534, block(1, 64, 64, "\xff"))),
		one(2, info(1, block(65536, 65536, 65536, ""), block(1024, 65536, 1, "\x00"), block(1023, 65472, 65472, "\x00"))),
		one(9, api.PartInfo{Part: 4, Blocks: cuts("", "", "a", "ab", "abc", "abd", "abd", "b", "ba")}),
		one(9, api.PartInfo{Part: 0, Blocks: cuts(k, k+"a", k+"a", k+"b"), Filter: bits}),
		one(300, api.PartInfo{Part: 299, Blocks: cuts("", "\x00", "\x00\x00", "a\xff", "\xff\xff"), Filter: api.Filter{Hashes: 8, Data: []byte{0}}}),
		{Parts: 4, Infos: []api.PartInfo{
			info(0, cuts("b", "c")...), {Part: 1, Blocks: cuts("a", "aa"), Filter: bits}, {Part: 3, Blocks: cuts("", "z")},
		}},
		{Parts: 1000, Infos: []api.PartInfo{
			{Part: 5, Blocks: cuts("abc")}, info(133, cuts("abd")...), {Part: 261, Blocks: cuts("ab"), Filter: bits}, info(999, cuts("ac")...),
		}},
	}
}

// footOfBody tells a right footer whose body has just n bytes.
func footOfBody(t *testing.T, n int) api.Foot {
	t.Helper()
	f := api.Foot{Parts: 65535}
	add := func(filter api.Filter) {
		f.Infos = append(f.Infos, api.PartInfo{Part: len(f.Infos), Blocks: many(1), Filter: filter})
	}
	for range n / 4200 {
		add(api.Filter{Hashes: 8, Data: data(4096)})
	}
	for range (n - len(plainBody(f)) + 72) / 73 { // an Info has 9 bytes, and up to 64 of its Cut
		add(api.Filter{All: true})
	}
	lack := n - len(plainBody(f))
	for i := range f.Infos {
		more := max(min(lack, 64), 0)
		f.Infos[i].Blocks[0].Cut = strings.Repeat("c", more)
		lack -= more
	}
	if lack != 0 {
		t.Fatalf("no footer with a body of %d bytes is found", n)
	}
	return f
}

// randomCuts tells texts that do not fall, many of them alike or with a long common beginning.
func randomCuts(r *rand.Rand, n int) []string {
	var out []string
	for range n {
		b := make([]byte, r.Intn(1+[]int{0, 3, 64}[r.Intn(3)]))
		for i := range b {
			b[i] = "\x00aab\xff"[r.Intn(5)]
		}
		if r.Intn(4) == 0 {
			b = []byte(strings.Repeat("k", 60) + string(b[:min(len(b), 4)]))
		}
		out = append(out, string(b))
	}
	slices.Sort(out)
	return out
}

func randomBlock(r *rand.Rand, cut string) api.BlockInfo {
	stored := 1 + r.Intn([]int{1, 3, 130, 65536}[r.Intn(4)])
	raw := 1 + r.Intn(min(64*stored, 65536))
	if r.Intn(4) == 0 {
		raw = min(64*stored, 65536)
	}
	count := 1 + r.Intn(raw)
	if r.Intn(4) == 0 {
		count = raw
	}
	return block(stored, raw, count, cut)
}

func randomFilter(r *rand.Rand) api.Filter {
	switch r.Intn(3) {
	case 0:
		return api.Filter{}
	case 1:
		return api.Filter{All: true}
	}
	f := api.Filter{Hashes: 1 + r.Intn(8), Data: make([]byte, 1+r.Intn([]int{1, 9, 200, 4096}[r.Intn(4)]))}
	r.Read(f.Data)
	return f
}

// randomFoot tells a right footer.
func randomFoot(r *rand.Rand) api.Foot {
	f := api.Foot{Parts: 1 + r.Intn([]int{1, 5, 300, 65535}[r.Intn(4)])}
	for part := r.Intn(1 + f.Parts/2); part < f.Parts && len(f.Infos) < 12; part += 1 + r.Intn(1+f.Parts/4) {
		i := api.PartInfo{Part: part, Filter: randomFilter(r)}
		for _, cut := range randomCuts(r, 1+r.Intn(8)) {
			i.Blocks = append(i.Blocks, randomBlock(r, cut))
		}
		f.Infos = append(f.Infos, i)
	}
	return f
}

// encoded is Encode where it has to be well: the pages, the trailer and the Trail.
func encoded(t *testing.T, f api.Foot) (pages, trailer []byte, trail api.Trail) {
	t.Helper()
	b, e := Encode(f)
	if e != api.OK || len(b) < 24 {
		t.Fatalf("Encode: %d bytes, %d", len(b), e)
	}
	seam := len(b) - 24
	return b[:seam:seam], b[seam:], api.Trail{Blocks: plainBlocks(f), Pages: int64(seam)}
}
