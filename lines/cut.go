package lines

import (
	"slices"
	"strings"

	"winnow/api"
)

// Cut cuts n bytes at places.
func Cut(n int, places []int) ([]api.Piece, api.Errno) {
	if n > api.MaxText || len(places) >= api.MaxTasks {
		return nil, api.ErrLong
	}
	if n < 0 {
		return nil, api.ErrArg
	}
	pieces := make([]api.Piece, 0, len(places)+1)
	from := 0
	for _, to := range append(brought(n, places), n) {
		pieces = append(pieces, api.Piece{From: from, To: to})
		from = to
	}
	return pieces, api.OK
}

// brought tells the places brought into n bytes, rising.
func brought(n int, places []int) []int {
	inside := make([]int, len(places))
	for i := range len(places) {
		inside[i] = places[i] % (n + 1)
		if inside[i] < 0 {
			inside[i] += n + 1
		}
	}
	slices.Sort(inside)
	return inside
}

// Splits cuts a text into splits of whole lines, at places.
func Splits(text string, places []int) ([]api.Split, api.Errno) {
	pieces, err := Cut(len(text), places)
	if err != api.OK {
		return nil, err
	}
	splits := make([]api.Split, len(pieces))
	from := 0
	for i, p := range pieces {
		to := lineFrom(text, p.To)
		// Refused at once: of a line that is too long, no later cut within it is to be looked at.
		if to-from > api.MaxSplit {
			return nil, api.ErrLong
		}
		splits[i] = api.Split{Offset: int64(from), Text: strings.Clone(text[from:to])}
		if from == to {
			splits[i].Offset = int64(p.From)
		}
		from = to
	}
	return splits, api.OK
}
