package filter

import "winnow/api"

// Kinds of filters.
const (
	deniesEverything = iota
	deniesNothing
	hasBits
	noKind // one that may not be
)

// kinds tells what filters of a kind have: whether All is set, and from how many to how many hashes and bytes. No filter is of two kinds.
var kinds = [noKind]struct {
	all               bool
	fewest, most      int // hashes
	shortest, longest int // bytes of Data
}{
	deniesEverything: {all: false},
	deniesNothing:    {all: true},
	hasBits:          {fewest: 1, most: 8, shortest: 1, longest: api.MaxFilter},
}

// What Join makes of two filters.
const (
	takeFirst = iota
	takeSecond
	takeBoth
)

// joins tells what Join makes of a filter of one kind and one of another.
var joins = [noKind][noKind]int{
	deniesEverything: {deniesEverything: takeFirst, deniesNothing: takeSecond, hasBits: takeSecond},
	deniesNothing:    {deniesEverything: takeFirst, deniesNothing: takeFirst, hasBits: takeFirst},
	hasBits:          {deniesEverything: takeFirst, deniesNothing: takeSecond, hasBits: takeBoth},
}

// kindOf tells a filter's kind.
func kindOf(f api.Filter) int {
	size := len(f.Data)
	for kind, row := range kinds {
		if f.All == row.all && row.fewest <= f.Hashes && f.Hashes <= row.most && row.shortest <= size && size <= row.longest {
			return kind
		}
	}
	return noKind
}
