package block

import (
	"iter"
	"slices"

	"winnow/api"
	"winnow/crc"
	"winnow/nums"
)

// Reader is a block that has been read. Its keys are put together when they are asked for: written out they may be many times the raw bytes. A restart and the entries behind it, up to the next one, are a group, which is read by itself.
type Reader struct {
	entries []byte // as they stand in the raw bytes
	places  []int  // where each group begins in entries, and then where the last one ends
	restart int
	count   int
}

// Open reads a tile of so many raw bytes.
func Open(tile []byte, raw int) (*Reader, api.Errno) {
	if raw < 1 || raw > api.MaxBlock {
		return nil, api.ErrArg
	}
	packed, err := crc.Open(tile)
	if err != api.OK {
		return nil, err
	}
	text, ok := unpack(packed, raw)
	if !ok {
		return nil, api.ErrBlock
	}
	r, ok := cut(text)
	if !ok || !r.isRight() {
		return nil, api.ErrBlock
	}
	return r, api.OK
}

// cut cuts raw bytes into groups, and tells whether the numbers at their end let them be cut. What stands in the groups is not looked at.
func cut(raw []byte) (*Reader, bool) {
	seam := len(raw) - tailSize
	tail := nums.NewCursor(raw[max(seam, 0):])
	restart, count := tail.Fixed(wordSize), tail.Fixed(wordSize)
	if tail.End().Err != api.OK || restart < 1 || restart > maxRestart || count < 1 || count > uint64(len(raw)) {
		return nil, false
	}
	r := &Reader{restart: int(restart), count: int(count)}
	groups := (r.count-1)/r.restart + 1
	end := seam - wordSize*groups
	if end < 0 {
		return nil, false
	}
	r.entries = raw[:end]
	table := nums.NewCursor(raw[end:])
	for range groups {
		r.places = append(r.places, int(table.Fixed(wordSize)))
	}
	r.places = append(r.places, end)
	return r, r.places[0] == 0 && slices.IsSorted(r.places)
}

// isRight tells whether each group is just its entries, as a builder would have written them, and no key falls.
func (r *Reader) isRight() bool {
	last := ""
	for g := range r.groups() {
		w := r.walk(g)
		for range min(r.restart, r.count-g*r.restart) {
			key, _ := w.next()
			if nums.Compare(key, last) < 0 {
				return false
			}
			last = key
		}
		if w.End().Err != api.OK {
			return false
		}
	}
	return true
}

// groups tells how many groups there are.
func (r *Reader) groups() int {
	return max(len(r.places)-1, 0)
}

// walk goes through a group.
func (r *Reader) walk(g int) *walker {
	return newWalker(r.entries[r.places[g]:r.places[g+1]])
}

// Len tells how many entries there are.
func (r *Reader) Len() int {
	if r == nil {
		return 0
	}
	return r.count
}

// At tells an entry.
func (r *Reader) At(i int) (string, string, api.Errno) {
	if r == nil {
		return "", "", api.ErrNil
	}
	if i < 0 || i >= r.count {
		return "", "", api.ErrArg
	}
	w := r.walk(i / r.restart)
	for range i % r.restart {
		w.next()
	}
	key, value := w.next()
	return key, value, api.OK
}

// below tells how many groups begin with a key below k.
func (r *Reader) below(k string) int {
	low, high := 0, r.groups()
	for low < high {
		middle := (low + high) / 2
		if first, _ := r.walk(middle).next(); nums.Compare(first, k) < 0 {
			low = middle + 1
		} else {
			high = middle
		}
	}
	return low
}

// Seek tells how many entries have a key below k. These end in the last group that begins with one.
func (r *Reader) Seek(k string) int {
	if r == nil {
		return 0
	}
	g := r.below(k) - 1
	if g < 0 {
		return 0
	}
	place := g * r.restart
	w := r.walk(g)
search:
	for w.Rest() > 0 {
		switch key, _ := w.next(); nums.Compare(key, k) {
		case -1:
			place++
		default:
			break search
		}
	}
	return place
}

// All goes through the entries.
func (r *Reader) All() iter.Seq2[string, string] {
	return func(yield func(string, string) bool) {
		if r == nil {
			return
		}
		for g := range r.groups() {
			for w := r.walk(g); w.Rest() > 0; {
				key, value := w.next()
				if !yield(key, value) {
					return
				}
			}
		}
	}
}
