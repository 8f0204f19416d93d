package foot

import (
	"bytes"
	"math/rand"
	"slices"
	"testing"

	"winnow/api"
)

// 8.8

// roomy tells the bytes with room behind them, in which nothing may be written.
func roomy(b []byte) []byte {
	out := append(bytes.Clone(b), bytes.Repeat([]byte{0xa5}, 40)...)
	return out[:len(b)]
}

// roomyFoot tells a footer all of whose lists have room behind them.
func roomyFoot(f api.Foot) api.Foot {
	mark := info(-77, block(-7, -7, -7, "mark"))
	f.Infos = append(slices.Clone(f.Infos), mark, mark, mark)[:len(f.Infos)]
	for i := range f.Infos {
		in := &f.Infos[i]
		in.Blocks = append(slices.Clone(in.Blocks), mark.Blocks[0], mark.Blocks[0], mark.Blocks[0])[:len(in.Blocks)]
		if len(in.Filter.Data) > 0 {
			in.Filter.Data = roomy(in.Filter.Data)
		}
	}
	return f
}

// whole tells a footer with the room behind its lists, all of it in memory of its own.
func whole(f api.Foot) api.Foot {
	f.Infos = slices.Clone(f.Infos[:cap(f.Infos)])
	for i := range f.Infos {
		in := &f.Infos[i]
		in.Blocks = slices.Clone(in.Blocks[:cap(in.Blocks)])
		in.Filter.Data = bytes.Clone(in.Filter.Data[:cap(in.Filter.Data)])
	}
	return f
}

func someFeet(t *testing.T) []api.Foot {
	list := append(small(), footOfBody(t, 4096), footOfBody(t, 9000))
	r := rand.New(rand.NewSource(808))
	for range 100 {
		f := randomFoot(r)
		list = append(list, f, spoilt(r, f))
	}
	return list
}

func TestFootIsNotChanged(t *testing.T) {
	for _, f := range someFeet(t) {
		f := roomyFoot(f)
		before := whole(f)
		calls := map[string]func(){
			"Check":  func() { Check(f) },
			"Encode": func() { Encode(f) },
			"Tiles":  func() { Tiles(f) },
			"Find": func() {
				for part := range 9 {
					Find(f, part, "ab")
				}
			},
		}
		for name, call := range calls {
			call()
			if !alike(whole(f), before) {
				t.Fatalf("%s changes what it is handed", name)
			}
		}
	}
}

func TestBytesAreNotChanged(t *testing.T) {
	for _, f := range someFeet(t) {
		if !plainCheck(f) {
			continue
		}
		pages, trailer, tr := encoded(t, f)
		pages, trailer = roomy(pages), roomy(trailer)
		before, trailerBefore := bytes.Clone(pages[:cap(pages)]), bytes.Clone(trailer[:cap(trailer)])
		for _, size := range []int64{0, tr.Blocks + tr.Pages + 24} {
			Trailer(trailer, size)
		}
		for _, blocks := range []int64{-1, 0, tr.Blocks} {
			Decode(pages, api.Trail{Blocks: blocks, Pages: tr.Pages})
			Decode(pages[1:], api.Trail{Blocks: blocks, Pages: tr.Pages})
		}
		d := decoder(t, tr)
		for at := 0; at < len(pages); at += 4100 {
			d.Page(pages[at:min(at+4100, len(pages))])
		}
		d.Foot()
		d.Page(pages)
		if !bytes.Equal(pages[:cap(pages)], before) || !bytes.Equal(trailer[:cap(trailer)], trailerBefore) {
			t.Fatalf("bytes that are handed in are changed")
		}
	}
}

// A decoder does not keep the pages: one buffer may serve for all of them.
func TestPagesAreNotKept(t *testing.T) {
	for _, n := range []int{100, 4096, 12000} {
		f := footOfBody(t, n)
		pages, _, tr := encoded(t, f)
		d := decoder(t, tr)
		buffer := make([]byte, 4100)
		for _, page := range pieces(pages) {
			takes(t, d, buffer[:copy(buffer, page)])
			for i := range buffer {
				buffer[i] = 0xee
			}
		}
		tells(t, d, f)
		got, _ := Decode(pages, tr)
		for i := range pages {
			pages[i] = 0xee
		}
		if !alike(got, f) {
			t.Errorf("what Decode told hangs on the pages")
		}
	}
}

// scribbled writes into all of an answer, and into the room behind its lists.
func scribbled(f api.Foot) {
	infos := f.Infos[:cap(f.Infos)]
	for i := range infos {
		blocks := infos[i].Blocks[:cap(infos[i].Blocks)]
		for k := range blocks {
			blocks[k] = block(-9, -9, -9, "scribble")
		}
		bits := infos[i].Filter.Data[:cap(infos[i].Filter.Data)]
		for k := range bits {
			bits[k] = 0xee
		}
		infos[i] = api.PartInfo{Part: -9}
	}
}

func TestAnswersAreNew(t *testing.T) {
	for _, f := range someFeet(t) {
		want, e := Encode(f)
		if e != api.OK {
			continue
		}
		want = bytes.Clone(want)
		tiles := slices.Clone(Tiles(f))
		before := copied(f)

		b, _ := Encode(f)
		l := Tiles(f)
		for i := range b[:cap(b)] {
			b[:cap(b)][i] = 0xee
		}
		for i := range l[:cap(l)] {
			l[:cap(l)][i] = api.Tile{Kind: -9}
		}
		if b, _ := Encode(f); !bytes.Equal(b, want) {
			t.Fatalf("an answer of Encode is shown later")
		}
		if !slices.Equal(Tiles(f), tiles) {
			t.Fatalf("an answer of Tiles is shown later")
		}
		if !alike(f, before) {
			t.Fatalf("an answer shares memory with the footer")
		}

		seam := len(want) - 24
		tr := api.Trail{Blocks: plainBlocks(f), Pages: int64(seam)}
		d := decoder(t, tr)
		takes(t, d, pieces(want[:seam])...)
		for range 2 {
			got, e := d.Foot()
			if !alike(got, f) || e != api.OK {
				t.Fatalf("an answer of Foot is shown later: %d", e)
			}
			scribbled(got)
		}
		kept := bytes.Clone(want)
		got, _ := Decode(want[:seam], tr)
		scribbled(got)
		if !bytes.Equal(want, kept) {
			t.Fatalf("an answer of Decode shares memory with the pages")
		}
		tells(t, d, f)
	}
}

// No two lists of one answer share memory: what is written into one of them, or behind its end, is seen in no other.
func TestListsAreApart(t *testing.T) {
	for _, f := range someFeet(t) {
		if !plainCheck(f) {
			continue
		}
		pages, _, tr := encoded(t, f)
		for i := range min(len(f.Infos), 5) {
			got, e := Decode(pages, tr)
			if e != api.OK {
				t.Fatalf("Decode: %d", e)
			}
			blocks := got.Infos[i].Blocks[:cap(got.Infos[i].Blocks)]
			for k := range blocks {
				blocks[k] = block(-9, -9, -9, "scribble")
			}
			bits := got.Infos[i].Filter.Data[:cap(got.Infos[i].Filter.Data)]
			for k := range bits {
				bits[k] ^= 0xff
			}
			got.Infos[i] = f.Infos[i]
			if !alike(got, f) {
				t.Fatalf("lists of one answer share memory")
			}
		}
	}
}
