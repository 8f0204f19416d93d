package spill

import (
	"winnow/api"
	"winnow/block"
	"winnow/nums"
)

// What a cursor is at.
const (
	atSeam   = iota // behind a block, or ahead of the first one
	inBlock         // within a block, all of whose records may be told already
	atEnd           // behind the last record
	atDamage        // at a block that is not whole
)

// Cursor goes through records.
type Cursor struct {
	at      int
	file    file
	blocks  []api.BlockInfo // those that are not read yet
	places  []int64         // where they begin
	key     string          // records below it are passed over
	last    string          // the last key of the block that was read last, or the empty one, which no key is below
	records []api.Pair      // of that block, those that are not told yet
}

// answer is what Next answers.
type answer struct {
	pair api.Pair
	some bool
	err  api.Errno
}

// Next tells the next one.
func (c *Cursor) Next() (api.Pair, bool, api.Errno) {
	if c == nil {
		return api.Pair{}, false, api.ErrNil
	}
	// A step tells whether it has an answer; without one it has brought the cursor on.
	steps := [...]func(*Cursor) (answer, bool){
		atSeam:   (*Cursor).enter,
		inBlock:  (*Cursor).tell,
		atEnd:    (*Cursor).tellEnd,
		atDamage: (*Cursor).tellDamage,
	}
	for {
		if a, ok := steps[c.at](c); ok {
			return a.pair, a.some, a.err
		}
	}
}

// enter reads the next block, if there is one.
func (c *Cursor) enter() (answer, bool) {
	if len(c.blocks) == 0 {
		return c.leave(atEnd)
	}
	b, ok := c.readBlock(c.blocks[0], c.places[0])
	if !ok {
		return c.leave(atDamage)
	}
	records := make([]api.Pair, 0, b.Len())
	for key, value := range b.All() {
		records = append(records, api.Pair{Key: key, Value: value})
	}
	c.blocks, c.places = c.blocks[1:], c.places[1:]
	c.last = records[len(records)-1].Key
	c.records = records[b.Seek(c.key):]
	c.at = inBlock
	return answer{}, false
}

// leave brings the cursor to where no more is read, and lets all else go.
func (c *Cursor) leave(at int) (answer, bool) {
	*c = Cursor{at: at}
	return answer{}, false
}

// readBlock reads a block that begins at that place, and tells whether it is whole.
func (c *Cursor) readBlock(info api.BlockInfo, at int64) (*block.Reader, bool) {
	size := int64(info.Stored) + blockExtra
	tile, err := c.file.read(at, size)
	if err != api.OK || int64(len(tile)) != size {
		return nil, false
	}
	b, err := block.Open(tile, info.Raw)
	if err != api.OK || b.Len() != info.Count {
		return nil, false
	}
	first, _, err := b.At(0)
	return b, err == api.OK && cutOf(first) == info.Cut && nums.Compare(first, c.last) >= 0
}

// tell tells a record, if one is left of the block.
func (c *Cursor) tell() (answer, bool) {
	if len(c.records) == 0 {
		c.at = atSeam
		return answer{}, false
	}
	a := answer{pair: c.records[0], some: true}
	c.records = c.records[1:]
	return a, true
}

func (c *Cursor) tellEnd() (answer, bool) {
	return answer{}, true
}

func (c *Cursor) tellDamage() (answer, bool) {
	return answer{err: api.ErrCorrupt}, true
}
