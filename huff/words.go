package huff

import "winnow/api"

// widths are the numbers of lengths: 0 to MaxCode.
const widths = api.MaxCode + 1

// words are the canonical words of lengths, by their lengths: the words of one length are neighbours, so that the first of them tells them all.
type words struct {
	count [widths]int // how many there are of each length but 0
	first [widths]int // the first of each length, as a number
	ahead [widths]int // how many are shorter
}

// newWords tells the words of lengths that may be, and whether these are right.
func newWords(lens []int) (w words, right bool) {
	for _, l := range lens {
		if l > 0 {
			w.count[l]++
		}
	}
	for l := 1; l < widths; l++ {
		w.first[l] = 2 * (w.first[l-1] + w.count[l-1])
		w.ahead[l] = w.ahead[l-1] + w.count[l-1]
	}
	// what would be the next word of MaxCode bits: each word has had its share of these
	end := w.first[api.MaxCode] + w.count[api.MaxCode]
	return w, end <= 1<<api.MaxCode
}

// order tells the symbols that have words, in the order of these.
func (w *words) order(lens []int) []byte {
	next := w.ahead
	out := make([]byte, w.ahead[api.MaxCode]+w.count[api.MaxCode])
	for s, l := range lens {
		if l > 0 {
			out[next[l]] = byte(s)
			next[l]++
		}
	}
	return out
}

// read reads the word that begins at a bit of b, and tells the place of its symbol in their order, and how many bits it has: 0, if there is none. A number that is no word of its length is behind the last one, so that the next length's number is not ahead of the first one.
func (w *words) read(b []byte, at int) (place, size int) {
	number := 0
	for l := 1; l < widths && at < 8*len(b); l++ {
		number = 2*number + int(b[at/8]>>(at%8)&1)
		if nth := number - w.first[l]; nth < w.count[l] {
			return w.ahead[l] + nth, l
		}
		at++
	}
	return 0, 0
}

// Codes tells the code words of lengths.
func Codes(lens []int) ([]api.Code, api.Errno) {
	if len(lens) > symbols {
		return nil, api.ErrLong
	}
	if !areLengths(lens) {
		return nil, api.ErrArg
	}
	w, right := newWords(lens)
	if !right {
		return nil, api.ErrLimit
	}
	next := w.first
	codes := make([]api.Code, len(lens))
	for s, l := range lens {
		if l > 0 {
			codes[s] = api.Code{Len: l, Bits: uint32(next[l])}
			next[l]++
		}
	}
	return codes, api.OK
}
