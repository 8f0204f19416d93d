package spill

import (
	"bytes"
	"slices"
	"strings"

	"winnow/api"
	"winnow/filter"
	"winnow/foot"
)

// Reader reads a spill. Nothing in it ever changes, so that its cursors may share it.
type Reader struct {
	file   file
	foot   api.Foot
	places [][]int64 // where the blocks of each Info begin
}

// newReader makes one of a file with that footer.
func newReader(f file, end api.Foot) *Reader {
	r := &Reader{file: f, foot: end}
	at := int64(0)
	for _, info := range end.Infos {
		places := make([]int64, 0, len(info.Blocks))
		for _, b := range info.Blocks {
			places = append(places, at)
			at += int64(b.Stored) + blockExtra
		}
		r.places = append(r.places, places)
	}
	return r
}

// Parts tells how many partitions there are.
func (r *Reader) Parts() int {
	if r == nil {
		return 0
	}
	return r.foot.Parts
}

// Foot tells the footer, all of its lists as copies.
func (r *Reader) Foot() api.Foot {
	if r == nil {
		return api.Foot{}
	}
	f := r.foot
	f.Infos = slices.Clone(f.Infos)
	for i := range f.Infos {
		info := &f.Infos[i]
		info.Blocks = slices.Clone(info.Blocks)
		info.Filter.Data = bytes.Clone(info.Filter.Data)
	}
	return f
}

// refuse tells why there is no such partition.
func (r *Reader) refuse(part int) api.Errno {
	if r == nil {
		return api.ErrNil
	}
	if part < 0 || part >= r.foot.Parts {
		return api.ErrArg
	}
	return api.OK
}

// Count tells how many records a partition has.
func (r *Reader) Count(part int) (int64, api.Errno) {
	if err := r.refuse(part); err != api.OK {
		return 0, err
	}
	count := int64(0)
	if place, _ := foot.Find(r.foot, part, ""); place >= 0 {
		for _, b := range r.foot.Infos[place].Blocks {
			count += int64(b.Count)
		}
	}
	return count, api.OK
}

// Scan goes through a partition: from the empty key on, which neither a key nor a Cut is below.
func (r *Reader) Scan(part int) (*Cursor, api.Errno) {
	return r.Seek(part, "")
}

// Seek goes through a partition from a key on.
func (r *Reader) Seek(part int, key string) (*Cursor, api.Errno) {
	if err := r.refuse(part); err != api.OK {
		return nil, err
	}
	place, first := foot.Find(r.foot, part, key)
	if place < 0 {
		return &Cursor{at: atEnd}, api.OK
	}
	return &Cursor{
		file:   r.file,
		blocks: r.foot.Infos[place].Blocks[first:],
		places: r.places[place][first:],
		key:    strings.Clone(key),
	}, api.OK
}

// Has tells whether a key is there. To make a cursor reads nothing, so that the filter is asked in time.
func (r *Reader) Has(part int, key string) (bool, api.Errno) {
	c, err := r.Seek(part, key)
	if err != api.OK || r.denies(part, key) {
		return false, err
	}
	pair, some, err := c.Next()
	return some && pair.Key == key, err
}

// denies tells whether a partition has no records, or its filter says that a key is not there.
func (r *Reader) denies(part int, key string) bool {
	place, _ := foot.Find(r.foot, part, key)
	return place < 0 || !filter.Has(r.foot.Infos[place].Filter, key)
}
