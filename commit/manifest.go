package commit

import (
	"math"

	"winnow/api"
	"winnow/crc"
	"winnow/nums"
)

// magic is what a manifest begins with.
const magic = "wnm1"

// sumWidth is how many bytes a part's sum has.
const sumWidth = 4

// entry is what a manifest says of a part. The part's task is the entry's place.
type entry struct {
	attempt         int
	length, records int64
	sum             uint32
}

// encode tells a manifest's bytes.
func encode(entries []entry) []byte {
	b := append([]byte(magic), nums.Put(int64(len(entries)))...)
	for _, e := range entries {
		b = append(b, nums.Put(int64(e.attempt))...)
		b = append(b, nums.Put(e.length)...)
		b = append(b, nums.Put(e.records)...)
		b = append(b, nums.Fixed(uint64(e.sum), sumWidth)...)
	}
	return crc.Seal(b)
}

// decode tells the entries of a manifest.
func decode(tile []byte) ([]entry, api.Errno) {
	b, err := crc.Open(tile)
	if err != api.OK {
		return nil, api.ErrManifest
	}
	c := nums.NewCursor(b)
	// Behind the first wrong thing the cursor has failed: nothing is left of it, and whatever is read is zero.
	demand := func(isRight bool) bool {
		if !isRight {
			c.Fail(api.ErrManifest)
		}
		return isRight
	}
	demand(string(c.Take(len(magic))) == magic)
	count := int(c.Num(api.MaxParts))
	demand(count > 0)
	var entries []entry
	for len(entries) < count && demand(c.Rest() > 0) {
		entries = append(entries, entry{
			attempt: int(c.Num(math.MaxInt)),
			length:  c.Num(math.MaxInt64),
			records: c.Num(math.MaxInt64),
			sum:     uint32(c.Fixed(sumWidth)),
		})
	}
	if c.End().Err != api.OK {
		return nil, api.ErrManifest
	}
	return entries, api.OK
}
