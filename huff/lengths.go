package huff

import (
	"cmp"
	"slices"

	"winnow/api"
)

// symbols is how many symbols there are.
const symbols = 256

// maxCount is how often a symbol may come.
const maxCount = 1 << 40

// pack is a package, or a symbol alone. All that stands in a row has a symbol at most once for each row up to it, so that a byte is wide enough.
type pack struct {
	weight int64
	times  [symbols]uint8 // how often each symbol is in it
}

// areCounts tells whether all of them may be counts.
func areCounts(counts []int64) bool {
	for _, c := range counts {
		if c < 0 || c > maxCount {
			return false
		}
	}
	return true
}

// areLengths tells whether all of them may be lengths of words.
func areLengths(lens []int) bool {
	for _, l := range lens {
		if l < 0 || l > api.MaxCode {
			return false
		}
	}
	return true
}

// ordered tells the symbols with a count, the rarer ones first, of alike ones the higher first.
func ordered(counts []int64) []int {
	var order []int
	for s, c := range counts {
		if c > 0 {
			order = append(order, s)
		}
	}
	slices.SortFunc(order, func(a, b int) int {
		return cmp.Or(cmp.Compare(counts[a], counts[b]), cmp.Compare(b, a))
	})
	return order
}

// alone tells the things of a row: each symbol with a count by itself.
func alone(counts []int64) []pack {
	order := ordered(counts)
	things := make([]pack, len(order))
	for i, s := range order {
		things[i].weight = counts[s]
		things[i].times[s] = 1
	}
	return things
}

// both puts two together.
func both(a, b *pack) pack {
	sum := pack{weight: a.weight + b.weight}
	for s := range sum.times {
		sum.times[s] = a.times[s] + b.times[s]
	}
	return sum
}

// paired tells the packages of the neighbours of a row.
func paired(row []pack) []pack {
	packs := make([]pack, len(row)/2)
	for i := range packs {
		packs[i] = both(&row[2*i], &row[2*i+1])
	}
	return packs
}

// mixed tells a row of things and packages, which both have the lighter ones first already.
func mixed(things, packs []pack) []pack {
	row := make([]pack, 0, len(things)+len(packs))
	for _, thing := range things {
		for len(packs) > 0 && packs[0].weight < thing.weight {
			row = append(row, packs[0])
			packs = packs[1:]
		}
		row = append(row, thing)
	}
	return append(row, packs...)
}

// taken tells what is taken of the last of so many rows. Of fewer than two things it is these, so that one symbol has the length 1.
func taken(things []pack, rows int) []pack {
	if len(things) < 2 {
		return things
	}
	most := 2*len(things) - 2
	row := things
	for range rows - 1 {
		next := mixed(things, paired(row))
		next = next[:min(most, len(next))] // what stands behind these is in no package that is taken
		if slices.Equal(next, row) {
			break // so are all further rows
		}
		row = next
	}
	return row
}

// Lengths tells the least lengths of code words for counts.
func Lengths(counts []int64, limit int) ([]int, api.Errno) {
	if len(counts) > symbols {
		return nil, api.ErrLong
	}
	if limit < 1 || limit > api.MaxCode || !areCounts(counts) {
		return nil, api.ErrArg
	}
	things := alone(counts)
	if len(things) > 1<<limit {
		return nil, api.ErrLimit
	}
	lens := make([]int, len(counts))
	for _, p := range taken(things, limit) {
		for s := range lens {
			lens[s] += int(p.times[s])
		}
	}
	return lens, api.OK
}

// Cost tells how many bits counts take with lengths.
func Cost(counts []int64, lens []int) (int64, api.Errno) {
	if len(counts) > symbols || len(lens) > symbols {
		return 0, api.ErrLong
	}
	if !areCounts(counts) || !areLengths(lens) {
		return 0, api.ErrArg
	}
	cost := int64(0)
	for s := range min(len(counts), len(lens)) {
		cost += counts[s] * int64(lens[s])
	}
	return cost, api.OK
}
