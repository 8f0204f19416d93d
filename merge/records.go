package merge

import (
	"strings"

	"winnow/api"
	"winnow/sortbuf"
)

// Records merges sorted lists.
func Records(lists [][]api.Record) ([]api.Record, api.Errno) {
	from := make([]func() (api.Record, bool, api.Errno), len(lists))
	for i, list := range lists {
		from[i] = tellerOf(list)
	}
	m, err := New(sortbuf.Compare, from...)
	if err != api.OK {
		return nil, err
	}
	var merged []api.Record
	for r := range m.All() {
		merged = append(merged, owned(r))
	}
	if m.Err() != api.OK {
		return nil, m.Err()
	}
	return merged, api.OK
}

// tellerOf makes a source of a list.
func tellerOf(list []api.Record) func() (api.Record, bool, api.Errno) {
	return func() (api.Record, bool, api.Errno) {
		if len(list) == 0 {
			return api.Record{}, false, api.OK
		}
		first := list[0]
		list = list[1:]
		return first, true, api.OK
	}
}

// owned tells the record with texts of its own: a short key must not hold on to the long text that it was cut from.
func owned(r api.Record) api.Record {
	r.Key = strings.Clone(r.Key)
	r.Value = strings.Clone(r.Value)
	return r
}
