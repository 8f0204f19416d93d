package parts

import (
	"slices"
	"strings"

	"winnow/api"
	"winnow/nums"
)

// isParts tells whether there may be so many partitions.
func isParts(n int) bool {
	return 1 <= n && n <= api.MaxParts
}

// isTooLong tells whether a text is above what a bound may have.
func isTooLong(text string) bool {
	return len(text) > api.MaxLen
}

// Bounds tells bounds of n partitions, of a sample.
func Bounds(sample []string, n int) ([]string, api.Errno) {
	if len(sample) > api.MaxSample {
		return nil, api.ErrLong
	}
	if !isParts(n) {
		return nil, api.ErrArg
	}
	if slices.ContainsFunc(sample, isTooLong) {
		return nil, api.ErrBounds
	}
	bounds := make([]string, n-1)
	if len(sample) > 0 {
		sorted := slices.Clone(sample)
		slices.SortFunc(sorted, nums.Compare)
		pick(bounds, sorted)
	}
	return bounds, api.OK
}

// pick fills bounds with keys of a sorted sample, as far apart as can be.
func pick(bounds, sorted []string) {
	before := -1
	for i := range bounds {
		place := placeOf(i+1, len(sorted), len(bounds)+1)
		if place == before {
			// More parts than keys: one copy of a long key is enough.
			bounds[i] = bounds[i-1]
			continue
		}
		bounds[i] = strings.Clone(sorted[place])
		before = place
	}
}

// placeOf tells the place of the bound number i among m keys, for n partitions.
func placeOf(i, m, n int) int {
	// In 64 bits: the product may be above 2^31.
	return int(int64(i) * int64(m) / int64(n))
}

// Check tells whether a job's partitions may be.
func Check(j api.Job) api.Errno {
	if !isParts(j.Parts) {
		return api.ErrArg
	}
	if len(j.Bounds) > 0 && !areBounds(j.Bounds, j.Parts) {
		return api.ErrBounds
	}
	return api.OK
}

// areBounds tells whether bounds cut all keys into so many ranges.
func areBounds(bounds []string, n int) bool {
	return len(bounds) == n-1 && !slices.ContainsFunc(bounds, isTooLong) && slices.IsSortedFunc(bounds, nums.Compare)
}
