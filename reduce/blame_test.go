package reduce

import (
	"fmt"
	"math"
	"math/rand"
	"slices"
	"testing"

	"winnow/api"
	"winnow/foot"
	"winnow/spill"
	"winnow/store"
)

// 18.3, 18.4 and 18.9

// The second example.
func TestBlameOfTheExample(t *testing.T) {
	s, a := example(t)
	isError(t, "Flip", s.Flip("o.m1.1", 5, 1), api.OK)
	a.blames(t, s, 1, api.ErrCorrupt)
	isError(t, "Resize", s.Resize("o.m0.1", -1), api.OK)
	a.blames(t, s, 0, api.ErrLength)
	if list := s.List("o.r"); len(list) != 0 {
		t.Errorf("there are parts: %v", list)
	}
}

// tilesOf tells where the tiles of a published spill lie.
func tilesOf(t *testing.T, s *store.Store, report api.Report) []api.Tile {
	t.Helper()
	r, err := spill.Open(s, report.Name, report.Length)
	isError(t, "Open", err, api.OK)
	return foot.Tiles(r.Foot())
}

// One thing that makes a spill one that is refused when it is opened.
type harm struct {
	what string
	why  api.Errno // 0: what spill.Open answers
	do   func(t *testing.T, s *store.Store, report *api.Report)
}

// harms are such things.
func harms() []harm {
	renamed := func(name string, why api.Errno) harm {
		return harm{fmt.Sprintf("name %q", name), why, func(t *testing.T, s *store.Store, report *api.Report) { report.Name = name }}
	}
	told := func(by int64) harm {
		return harm{fmt.Sprint("told length ", by), api.ErrLength, func(t *testing.T, s *store.Store, report *api.Report) { report.Length += by }}
	}
	resized := func(by int64) harm {
		return harm{fmt.Sprint("length ", by), api.ErrLength, func(t *testing.T, s *store.Store, report *api.Report) {
			isError(t, "Resize", s.Resize(report.Name, by), api.OK)
		}}
	}
	replaced := func(what string, out bool, file []byte, why api.Errno) harm {
		return harm{what, why, func(t *testing.T, s *store.Store, report *api.Report) {
			isError(t, "Delete", s.Delete(report.Name), api.OK)
			isError(t, "Create", s.Create(report.Name), api.OK)
			isError(t, "Append", s.Append(report.Name, file), api.OK)
			if out {
				isError(t, "Publish", s.Publish(report.Name), api.OK)
			}
			report.Length = int64(len(file))
		}}
	}
	hit := func(kind, bit int) harm {
		return harm{fmt.Sprint("a bit of a tile of kind ", kind, bit), 0, func(t *testing.T, s *store.Store, report *api.Report) {
			for _, tile := range tilesOf(t, s, *report) {
				if tile.Kind == kind {
					isError(t, "Flip", s.Flip(report.Name, 8*tile.From+int64(bit), 1), api.OK)
					return
				}
			}
		}}
	}
	parted := func(parts int) harm {
		return harm{fmt.Sprint("parts ", parts), api.ErrCorrupt, func(t *testing.T, s *store.Store, report *api.Report) {
			isError(t, "Delete", s.Delete(report.Name), api.OK)
			h := sheet{parts: parts, shape: smallShape(), records: []api.Record{rec(0, "a", "1")}}
			*report = h.lay(t, s, report.Name, report.Task, report.Attempt)
		}}
	}
	return []harm{
		renamed("", api.ErrName), renamed("W", api.ErrName), renamed("o.m9.1", api.ErrNoBlob), renamed("o", api.ErrNoBlob),
		{"gone", api.ErrNoBlob, func(t *testing.T, s *store.Store, report *api.Report) {
			isError(t, "Delete", s.Delete(report.Name), api.OK)
		}},
		told(1), told(-1), told(math.MaxInt64 / 2), told(math.MinInt64 / 2),
		resized(1), resized(-1), resized(-20), resized(100),
		replaced("without bytes", true, nil, api.ErrTrailer), replaced("23 bytes", true, make([]byte, 23), api.ErrTrailer), replaced("zeros", true, make([]byte, 100), 0),
		replaced("open", false, make([]byte, 100), api.ErrOpen), replaced("open, without bytes", false, nil, api.ErrOpen),
		hit(api.TilePage, 0), hit(api.TilePage, 77), hit(api.TileTrail, 0), hit(api.TileTrail, 40), hit(api.TileTrail, 191),
		parted(2), parted(65535), parted(4), parted(1),
	}
}

// threeSheets are spills of three partitions, each with some blocks of each.
func threeSheets(count int) []sheet {
	var sheets []sheet
	for task := range count {
		h := sheet{parts: 3, shape: smallShape()}
		for part := range 3 {
			for k := range 12 {
				h.records = append(h.records, rec(part, fmt.Sprintf("key%02d", k), fmt.Sprint(100*task+k)))
			}
		}
		sheets = append(sheets, h)
	}
	return sheets
}

// Whatever is wrong with whichever spill: it is to blame, with what its opening answers; with the number of its attempt, whatever that is.
func TestEachHarm(t *testing.T) {
	for i, h := range harms() {
		for place := range 3 {
			s, a := attemptOver(t, threeSheets(3), 1)
			for k := range a.spills {
				a.spills[k].Attempt = []int{1, 7, 0, -3, math.MaxInt, math.MinInt}[(i+k)%6]
			}
			h.do(t, s, &a.spills[place])
			why := h.why
			if why == 0 {
				_, why = spill.Open(s, a.spills[place].Name, a.spills[place].Length)
			}
			if why == api.OK {
				t.Fatalf("%s: the spill can be opened", h.what)
			}
			a.blames(t, s, place, why)
			a.stoppedAt(0).blames(t, s, place, why)
		}
	}
}

// Of two that are refused the first one is to blame, and those behind it are not looked at.
func TestFirstHarm(t *testing.T) {
	list := harms()
	for i, first := range list {
		second := list[(i*7+5)%len(list)]
		s, a := attemptOver(t, threeSheets(3), 1)
		second.do(t, s, &a.spills[2])
		first.do(t, s, &a.spills[1])
		why := first.why
		if why == 0 {
			_, why = spill.Open(s, a.spills[1].Name, a.spills[1].Length)
		}
		a.blames(t, s, 1, why)
	}
}

// All spills are opened ahead of the first look at any: a later one that is refused is to blame ahead of an earlier one with a block that is hit.
func TestOpeningAheadOfLooking(t *testing.T) {
	for _, h := range harms() {
		s, a := attemptOver(t, threeSheets(3), 0)
		isError(t, "Flip", s.Flip("o.m0.1", 5, 1), api.OK)
		a.blames(t, s, 0, api.ErrCorrupt)
		h.do(t, s, &a.spills[2])
		why := h.why
		if why == 0 {
			_, why = spill.Open(s, a.spills[2].Name, a.spills[2].Length)
		}
		a.blames(t, s, 2, why)
	}
}

// Blame comes ahead of what would be wrong with the part: a name that is taken, or may not be.
func TestBlameAheadOfCreating(t *testing.T) {
	s, a := example(t)
	isError(t, "Flip", s.Flip("o.m1.1", 5, 1), api.OK)
	leave(t, s, "o.r0.1", true)
	a.blames(t, s, 1, api.ErrCorrupt)
	isSame(t, "the blob that was there", bytesOf(t, s, "o.r0.1"), []byte("left o.r0.1"))
	a.out = "W"
	a.blames(t, s, 1, api.ErrCorrupt)
	a.spills[0].Length = 0
	a.blames(t, s, 0, api.ErrLength)
}

// A hit block is of account to the tasks whose partition has it alone.
func TestBlocksOfOtherPartitions(t *testing.T) {
	sheets := threeSheets(2)
	s, a := attemptOver(t, sheets, 0)
	r, err := spill.Open(s, "o.m1.1", a.spills[1].Length)
	isError(t, "Open", err, api.OK)
	at := int64(0)
	for _, info := range r.Foot().Infos {
		for _, b := range info.Blocks {
			bit := 8 * (at + int64(b.Stored)/2)
			at += int64(b.Stored) + 5
			isError(t, "Flip", s.Flip("o.m1.1", bit, 1), api.OK)
			for task := range 3 {
				a.task, a.number = task, a.number+1
				if task == info.Part {
					a.blames(t, s, 1, api.ErrCorrupt)
					continue
				}
				a.writesPlain(t, s, sheets)
			}
			isError(t, "Flip", s.Flip("o.m1.1", bit, 1), api.OK)
		}
	}
}

// Each bit of a small spill, turned alone.
func TestEachBit(t *testing.T) {
	t.Parallel()
	h := sheet{parts: 3, shape: api.Shape{Block: 64, Restart: 2, Bits: 8}}
	for i := range 8 {
		h.records = append(h.records, rec(0, fmt.Sprint("a", i), "1"))
	}
	h.records = append(h.records, rec(2, "b", "2"))
	s := store.New()
	report := h.lay(t, s, "o.m0.1", 0, 5)
	tiles := tilesOf(t, s, report)
	blocks := 0
	for _, tile := range tiles {
		if tile.Kind == api.TileBlock {
			blocks++
		}
	}
	if blocks < 3 {
		t.Fatalf("%d blocks", blocks)
	}
	a := attempt{out: "o", job: api.Job{Kind: api.JobSort, Parts: 3}, spills: []api.Report{report}}
	for place, tile := range tiles {
		for bit := 8 * tile.From; bit < 8*tile.To; bit++ {
			isError(t, "Flip", s.Flip(report.Name, bit, 1), api.OK)
			for task := range 3 {
				a.task, a.number = task, a.number+1
				hit := tile.Kind != api.TileBlock || task == 0 && place < blocks-1 || task == 2 && place == blocks-1
				if !hit {
					a.writesPlain(t, s, []sheet{h})
					isError(t, "Delete", s.Delete(a.name()), api.OK)
					continue
				}
				why := api.ErrCorrupt
				if tile.Kind != api.TileBlock {
					_, why = spill.Open(s, report.Name, report.Length)
				}
				a.blames(t, s, 0, why)
			}
			isError(t, "Flip", s.Flip(report.Name, bit, 1), api.OK)
		}
	}
}

// burst turns some bits that lie in a tile within 32 neighbours.
func burst(t *testing.T, random *rand.Rand, s *store.Store, name string, tile api.Tile) {
	t.Helper()
	from, to := 8*tile.From, 8*tile.To
	bit := from + random.Int63n(to-from)
	mask := random.Uint32() | 1
	if left := to - bit; left < 32 {
		mask &= 1<<left - 1
	}
	isError(t, "Flip", s.Flip(name, bit, mask), api.OK)
}

// Damage in many spills at one time: the first whose page, trailer or length is hit is to blame, or, if there is none, the first with a hit block of the partition; a spill as it was published never is.
func TestBlameIsRight(t *testing.T) {
	t.Parallel()
	random := rand.New(rand.NewSource(189))
	ends := [3]int{}
	for range 1500 {
		s, a, sheets := randomAttempt(t, random)
		damaged := damageMany(t, random, s, a)
		// Who is to blame, by what was done alone.
		place, kind := -1, 0
		for i, hit := range damaged {
			if hit.end {
				place, kind = i, 1
				break
			}
			if hit.block && place < 0 {
				place, kind = i, 2
			}
		}
		ends[kind]++
		if kind == 0 {
			a.writesPlain(t, s, sheets)
			continue
		}
		why := api.ErrCorrupt
		if kind == 1 {
			_, why = spill.Open(s, a.spills[place].Name, a.spills[place].Length)
		}
		a.blames(t, s, place, why)
	}
	if slices.Min(ends[:]) < 100 {
		t.Errorf("too few of a kind: %v", ends)
	}
}

// hits tells what of a spill was hit: its end or its length; a block of the partition that is asked for.
type hits struct{ end, block bool }

// damageMany damages some of an attempt's spills, each at some tiles, or in its length.
func damageMany(t *testing.T, random *rand.Rand, s *store.Store, a attempt) []hits {
	t.Helper()
	list := make([]hits, len(a.spills))
	for i, report := range a.spills {
		if random.Intn(2) == 0 {
			continue
		}
		r, err := spill.Open(s, report.Name, report.Length)
		isError(t, "Open", err, api.OK)
		var blocks []int // the partitions of the blocks, in their order
		for _, info := range r.Foot().Infos {
			blocks = append(blocks, slices.Repeat([]int{info.Part}, len(info.Blocks))...)
		}
		for place, tile := range foot.Tiles(r.Foot()) {
			if random.Intn(2+len(blocks)) > 0 || tile.Kind != api.TileBlock && random.Intn(3) > 0 {
				continue
			}
			burst(t, random, s, report.Name, tile)
			if tile.Kind != api.TileBlock {
				list[i].end = true
			} else if blocks[place] == a.task {
				list[i].block = true
			}
		}
		if random.Intn(12) == 0 {
			by := int64(1 + random.Intn(50))
			if random.Intn(2) == 0 {
				by = -min(by, report.Length)
			}
			isError(t, "Resize", s.Resize(report.Name, by), api.OK)
			list[i].end = true
		}
	}
	return list
}

// Spills of any bytes, and of ends that mean something over blocks that do not: the answer is the one that the words tell, whatever they hold.
func TestAnyBytes(t *testing.T) {
	t.Parallel()
	random := rand.New(rand.NewSource(1891))
	for range 300 {
		s, a, _ := randomAttempt(t, random)
		for i := range a.spills {
			if random.Intn(3) > 0 {
				continue
			}
			report := &a.spills[i]
			file := bytesOf(t, s, report.Name)
			r, err := spill.Open(s, report.Name, report.Length)
			isError(t, "Open", err, api.OK)
			blocks := r.Foot()
			switch from := len(file) - endOf(t, blocks); random.Intn(3) {
			case 0:
				random.Read(file)
			case 1:
				random.Read(file[:from])
			case 2:
				file = append(file[:from], file...)
			}
			isError(t, "Delete", s.Delete(report.Name), api.OK)
			isError(t, "Create", s.Create(report.Name), api.OK)
			isError(t, "Append", s.Append(report.Name, file), api.OK)
			isError(t, "Publish", s.Publish(report.Name), api.OK)
			report.Length = int64(len(file))
		}
		a.same(t, s)
	}
}

// endOf tells how many bytes a footer has, and the trailer.
func endOf(t *testing.T, f api.Foot) int {
	t.Helper()
	b, err := foot.Encode(f)
	isError(t, "Encode", err, api.OK)
	return len(b)
}

// Behind a blame the map task runs again: with its new report the same attempt goes on, and ends well.
func TestGoingOnBehindBlame(t *testing.T) {
	sheets := exampleSheets()
	s, a := example(t)
	isError(t, "Flip", s.Flip("o.m0.1", 5, 1), api.OK)
	isError(t, "Resize", s.Resize("o.m1.1", 1), api.OK)
	a.blames(t, s, 1, api.ErrLength)
	a.spills[1] = sheets[1].lay(t, s, "o.m1.2", 1, 2)
	a.blames(t, s, 0, api.ErrCorrupt)
	a.spills[0] = sheets[0].lay(t, s, "o.m0.2", 0, 2)
	isError(t, "Flip", s.Flip("o.m0.2", 5, 1), api.OK)
	a.blames(t, s, 0, api.ErrCorrupt)
	a.spills[0] = sheets[0].lay(t, s, "o.m0.3", 0, 3)
	a.writes(t, s, "a\t2\nb\t2\n", 2)
}
