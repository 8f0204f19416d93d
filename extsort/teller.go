package extsort

import (
	"winnow/api"
	"winnow/spill"
	"winnow/store"
)

// teller tells its next record each time that it is asked; or that there is none any more; or an error. Behind these two it is not asked again.
type teller func() (api.Record, bool, api.Errno)

// tellList tells a list.
func tellList(list []api.Record) teller {
	return func() (api.Record, bool, api.Errno) {
		if len(list) == 0 {
			return api.Record{}, false, api.OK
		}
		first := list[0]
		list = list[1:]
		return first, true, api.OK
	}
}

// tellRuns makes a teller of each run, as the sources of a merge: that asks for functions without a name of their own.
func tellRuns(s *store.Store, row []run) []func() (api.Record, bool, api.Errno) {
	from := make([]func() (api.Record, bool, api.Errno), 0, len(row))
	for _, r := range row {
		from = append(from, tellRun(s, r))
	}
	return from
}

// tellRun tells a run, one partition behind the other. The run is opened when its first record is wanted, so that whoever wants it is told why it cannot be read.
func tellRun(s *store.Store, r run) teller {
	var file *spill.Reader
	var parts []int // that are not begun yet
	tell := tellList(nil)
	return func() (api.Record, bool, api.Errno) {
		if file == nil {
			opened, err := spill.Open(s, r.name, r.length)
			if err != api.OK {
				return api.Record{}, false, err
			}
			file, parts = opened, partsOf(opened)
		}
		for {
			record, some, err := tell()
			if some || err != api.OK || len(parts) == 0 {
				return record, some, err
			}
			cursor, err := file.Scan(parts[0])
			if err != api.OK {
				return api.Record{}, false, err
			}
			tell, parts = tellPart(parts[0], cursor), parts[1:]
		}
	}
}

// partsOf tells which partitions have records: of many most may have none, and it would take long to ask each.
func partsOf(file *spill.Reader) []int {
	infos := file.Foot().Infos
	parts := make([]int, len(infos))
	for i, info := range infos {
		parts[i] = info.Part
	}
	return parts
}

// tellPart tells what a cursor goes through.
func tellPart(part int, cursor *spill.Cursor) teller {
	return func() (api.Record, bool, api.Errno) {
		pair, some, err := cursor.Next()
		if !some {
			return api.Record{}, false, err
		}
		return api.Record{Part: part, Key: pair.Key, Value: pair.Value}, true, api.OK
	}
}
