package reduce

import (
	"iter"

	"winnow/api"
	"winnow/jobs"
	"winnow/merge"
	"winnow/store"
)

// create begins a part, and lays the stop on it, if there is one.
func create(s *store.Store, name string, at int64, stops bool) api.Errno {
	err := s.Create(name)
	if err == api.OK && stops {
		err = s.StopAt(name, at)
	}
	return err
}

// linesOf tells a part's lines of the pairs of a partition, which are in order.
func linesOf(kind int, pairs iter.Seq[api.Pair]) iter.Seq[string] {
	return func(yield func(string) bool) {
		for key, values := range merge.Groups(pairs) {
			for _, value := range jobs.Reduce(kind, values) {
				if !yield(jobs.Line(key, value)) {
					return
				}
			}
		}
	}
}

// write writes lines to a part and publishes it; it tells the part's length, and how many lines it has.
func write(s *store.Store, name string, all iter.Seq[string]) (length, count int64, err api.Errno) {
	for line := range all {
		if err := s.Append(name, []byte(line)); err != api.OK {
			return 0, 0, err
		}
		length += int64(len(line))
		count++
	}
	return length, count, s.Publish(name)
}
