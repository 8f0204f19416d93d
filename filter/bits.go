package filter

import (
	"bytes"

	"winnow/api"
)

// Hash tells two numbers of a key.
func Hash(key string) (uint64, uint64) {
	h := uint64(14695981039346656037)
	for i := range len(key) {
		h = (h ^ uint64(key[i])) * 1099511628211
	}
	z := h + 0x9E3779B97F4A7C15
	z = (z ^ z>>30) * 0xBF58476D1CE4E5B9
	z = (z ^ z>>27) * 0x94D049BB133111EB
	return h, (z ^ z>>31) | 1
}

// eachBit shows a key's bits in a filter, one by one, to a closure over the filter's bytes, as long as that says yes; it tells whether it said so of all.
func eachBit(f api.Filter, key string, step func(bit uint64) bool) bool {
	count := 8 * uint64(len(f.Data))
	place, stride := Hash(key)
	for range f.Hashes {
		if !step(place % count) {
			return false
		}
		place += stride
	}
	return true
}

// asking tells whether a bit is set.
func asking(data []byte) func(bit uint64) bool {
	return func(bit uint64) bool {
		return data[bit/8]>>(bit%8)&1 == 1
	}
}

// setting sets a bit, and says yes so that the next one is shown.
func setting(data []byte) func(bit uint64) bool {
	return func(bit uint64) bool {
		data[bit/8] |= 1 << (bit % 8)
		return true
	}
}

// clone tells a filter that shares no memory with f.
func clone(f api.Filter) api.Filter {
	f.Data = bytes.Clone(f.Data)
	return f
}

// union tells the filter that has the bits of two filters with bits.
func union(a, b api.Filter) (api.Filter, api.Errno) {
	if a.Hashes != b.Hashes || len(a.Data) != len(b.Data) {
		return api.Filter{}, api.ErrArg
	}
	f := clone(a)
	for i, c := range b.Data {
		f.Data[i] |= c
	}
	return f, api.OK
}
