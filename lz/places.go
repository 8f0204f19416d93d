package lz

import (
	"math/bits"

	"winnow/api"
)

// The MinMatch bytes at a place are a word, and words are spread over slots: a product with an odd number lets each bit of the word reach the highest ones, which are the slot.
const (
	slotBits = 14
	slots    = 1 << slotBits
	wordBits = 8 * api.MinMatch
	spread   = 0x9E3779B1
)

// maxLooks is how many places with the same bytes are looked at.
const maxLooks = 16

// places are the places of a text that have been gone by. Each is kept as one more than it is, so that 0 is none; a place that MinMatch bytes stand at is far enough below MaxBlock for that.
type places struct {
	last  [slots]uint16      // the last place of each slot
	ahead [api.Window]uint16 // the place of the same slot ahead of each, for the last Window ones: no match reaches farther back
}

// slot tells the slot of the MinMatch bytes at i.
func slot(text []byte, i int) int {
	word := uint32(0)
	for _, c := range text[i : i+api.MinMatch] {
		word = word<<8 | uint32(c)
	}
	return int(word * spread >> (wordBits - slotBits))
}

// add takes the place i of a text behind all that were added.
func (p *places) add(text []byte, i int) {
	if len(text)-i < api.MinMatch {
		return
	}
	s := slot(text, i)
	p.ahead[i%api.Window] = p.last[s]
	p.last[s] = uint16(i + 1)
}

// pays tells whether a match is not below 3 and the bytes of its distance's short number, which has seven bits a byte.
func pays(dist, length int) bool {
	return length >= 3+(bits.Len(uint(dist))+6)/7
}

// match tells the match of the place i of a text, of which all places ahead of i have been added; zeros, if it has none. The nearest places come first, so that of matches of the same length the first has the least distance.
func (p *places) match(text []byte, i int) (dist, length int) {
	most := min(api.MaxMatch, len(text)-i)
	if most < api.MinMatch {
		return 0, 0
	}
	looks := 0
	next := int(p.last[slot(text, i)])
search:
	for next > 0 && i-(next-1) <= api.Window {
		j := next - 1
		next = int(p.ahead[j%api.Window])
		for k := range api.MinMatch {
			if text[j+k] != text[i+k] {
				continue search // other bytes have the same slot
			}
		}
		looks++
		run := alike(text, j, i, most)
		if run > length && pays(i-j, run) {
			dist, length = i-j, run
		}
		if run == most || looks == maxLooks {
			break search // none behind it is longer, or looked at
		}
	}
	return dist, length
}

// alike tells how many bytes at the places j and i of a text are the same, of at most so many, where the first MinMatch are.
func alike(text []byte, j, i, most int) int {
	run := api.MinMatch
	for run < most && text[j+run] == text[i+run] {
		run++
	}
	return run
}
