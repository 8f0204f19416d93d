package extsort

import (
	"strconv"

	"winnow/api"
	"winnow/merge"
	"winnow/sortbuf"
	"winnow/spill"
)

// run is a spill of sorted records.
type run struct {
	name   string
	length int64
	level  int
}

// names makes the names of a sorter's runs.
type names struct {
	prefix string
	count  int // of those that were made
}

func (n *names) next() string {
	n.count++
	return n.prefix + "." + strconv.Itoa(n.count)
}

// makeRoom lays the buffer down, and merges runs as long as there are fan of one level at the end of the row.
func (s *Sorter) makeRoom() api.Errno {
	r, err := s.layDown(tellList(s.buffer.Take()), 0)
	if err != api.OK {
		return err
	}
	s.row = append(s.row, r)
	s.stats.Runs++
	for s.isLevelFull() {
		if err := s.mergeLast(s.fan); err != api.OK {
			return err
		}
	}
	return api.OK
}

// isLevelFull tells whether the last fan runs are of one level. As levels do not rise along the row, the first and the last of them tell that.
func (s *Sorter) isLevelFull() bool {
	last := len(s.row) - 1
	first := last - (s.fan - 1)
	return first >= 0 && s.row[first].level == s.row[last].level
}

// mergeToFan merges runs until there are no more sources than fan: the last ones, which are the shortest, and no more of them than it needs.
func (s *Sorter) mergeToFan() api.Errno {
	for {
		sources := len(s.row) + min(s.buffer.Len(), 1)
		if sources <= s.fan {
			return api.OK
		}
		if err := s.mergeLast(min(s.fan, sources-(s.fan-1))); err != api.OK {
			return err
		}
	}
}

// mergeLast merges so many runs, the last ones of the row.
func (s *Sorter) mergeLast(count int) api.Errno {
	left := len(s.row) - count
	old := s.row[left:]
	m, err := merge.New(sortbuf.Compare, tellRuns(s.store, old)...)
	if err != api.OK {
		return err
	}
	r, err := s.layDown(m.Next, old[0].level+1)
	if err != api.OK {
		return err
	}
	// The old ones stay where they are: they are still to be deleted.
	s.row = append(s.row[:left:left], r)
	s.stats.Merges++
	for _, o := range old {
		if err := s.store.Delete(o.name); err != api.OK {
			return err
		}
	}
	return api.OK
}

// layDown writes all that a teller has as a run of that level.
func (s *Sorter) layDown(tell teller, level int) (run, api.Errno) {
	name := s.nextName()
	w, err := spill.Create(s.store, name, s.parts, s.shape)
	if err != api.OK {
		return run{}, err
	}
	for {
		r, some, err := tell()
		if err != api.OK {
			return run{}, err
		}
		if !some {
			break
		}
		if err := w.Add(r); err != api.OK {
			return run{}, err
		}
	}
	length, _, err := w.Close()
	if err != api.OK {
		return run{}, err
	}
	if err := s.store.Publish(name); err != api.OK {
		return run{}, err
	}
	return run{name: name, length: length, level: level}, api.OK
}
