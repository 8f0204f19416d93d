package maptask

import (
	"sort"

	"winnow/api"
	"winnow/extsort"
	"winnow/jobs"
	"winnow/lines"
	"winnow/merge"
	"winnow/parts"
	"winnow/spill"
)

// gather adds what a split's lines give to a sorter, and tells how many things were dropped.
func gather(to *extsort.Sorter, j api.Job, split api.Split) (int64, api.Errno) {
	var dropped int64
	for place, line := range lines.All(split) {
		pairs, count := jobs.Map(j.Kind, place, line)
		dropped += int64(count)
		for _, pair := range pairs {
			r := api.Record{Part: partOf(j, pair.Key), Key: pair.Key, Value: pair.Value}
			if err := to.Add(r); err != api.OK {
				return 0, err
			}
		}
	}
	return dropped, api.OK
}

// partOf tells the partition of a key, as parts.Of does, in a job that parts.Check has taken.
func partOf(j api.Job, key string) int {
	if len(j.Bounds) == 0 {
		return parts.Of(j, key)
	}
	// By halving: parts.Of checks all the bounds anew for each key, and there may be many of both.
	return sort.Search(len(j.Bounds), func(place int) bool {
		return parts.Range(j.Bounds[place:place+1], key) == 0
	})
}

// write adds sorted records to a spill: as they are, or with the values of each key combined.
func write(to *spill.Writer, j api.Job, sorted *extsort.Stream) api.Errno {
	if j.Combine {
		return writeCombined(to, j, sorted)
	}
	for {
		r, some, err := sorted.Next()
		if !some {
			return err
		}
		if err := to.Add(r); err != api.OK {
			return err
		}
	}
}

// writeCombined adds, key by key, the values that mean the same. All records of a key are in one partition, so that the key alone tells where a run of neighbours ends.
func writeCombined(to *spill.Writer, j api.Job, sorted *extsort.Stream) (err api.Errno) {
	pairs := func(yield func(api.Pair) bool) {
		for {
			r, some, e := sorted.Next()
			if !some {
				err = e
				return
			}
			if !yield(api.Pair{Key: r.Key, Value: r.Value}) {
				return
			}
		}
	}
	for key, values := range merge.Groups(pairs) {
		// Where the stream has failed, these may not be all values of the key.
		if err == api.OK {
			err = addAll(to, partOf(j, key), key, jobs.Combine(j.Kind, values))
		}
		if err != api.OK {
			break
		}
	}
	return err
}

// addAll adds a record for each value of a key.
func addAll(to *spill.Writer, part int, key string, values []string) api.Errno {
	for _, value := range values {
		if err := to.Add(api.Record{Part: part, Key: key, Value: value}); err != api.OK {
			return err
		}
	}
	return api.OK
}
