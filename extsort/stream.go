package extsort

import (
	"winnow/api"
	"winnow/merge"
	"winnow/sortbuf"
	"winnow/store"
)

// Stream is sorted records.
type Stream struct {
	closed bool
	store  *store.Store
	row    []run // to be deleted, the oldest first
	merged *merge.Merge[api.Record]
}

// newStream makes one that tells what comes from sources, and owns the runs of a row.
func newStream(s *store.Store, row []run, from []func() (api.Record, bool, api.Errno)) (*Stream, api.Errno) {
	m, err := merge.New(sortbuf.Compare, from...)
	if err != api.OK {
		return nil, err
	}
	return &Stream{store: s, row: row, merged: m}, api.OK
}

// refuse tells why nothing is done with it.
func (t *Stream) refuse() api.Errno {
	if t == nil {
		return api.ErrNil
	}
	if t.closed {
		return api.ErrOver
	}
	return api.OK
}

// Next tells the next one. The merge keeps the error that it is over with.
func (t *Stream) Next() (api.Record, bool, api.Errno) {
	if err := t.refuse(); err != api.OK {
		return api.Record{}, false, err
	}
	return t.merged.Next()
}

// Close ends it, and takes the runs away: a run that cannot be deleted does not keep the others.
func (t *Stream) Close() api.Errno {
	if err := t.refuse(); err != api.OK {
		return err
	}
	first := api.OK
	for _, r := range t.row {
		if err := t.store.Delete(r.name); first == api.OK {
			first = err
		}
	}
	*t = Stream{closed: true}
	return first
}
