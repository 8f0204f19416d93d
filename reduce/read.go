package reduce

import (
	"iter"
	"slices"
	"strings"

	"winnow/api"
	"winnow/merge"
	"winnow/spill"
	"winnow/store"
)

// examine opens all spills, and then looks whether a partition of each is whole; or it tells the place of the first report that is to blame, and why.
func examine(s *store.Store, parts, part int, spills []api.Report) ([]*spill.Reader, int, api.Errno) {
	readers := make([]*spill.Reader, 0, len(spills))
	for i, report := range spills {
		r, why := open(s, parts, report)
		if why != api.OK {
			return nil, i, why
		}
		readers = append(readers, r)
	}
	for i, r := range readers {
		if why := scan(r, part); why != api.OK {
			return nil, i, why
		}
	}
	return readers, 0, api.OK
}

// open opens a spill, which has to have so many partitions.
func open(s *store.Store, parts int, report api.Report) (*spill.Reader, api.Errno) {
	r, err := spill.Open(s, report.Name, report.Length)
	if err != api.OK {
		return nil, err
	}
	if r.Parts() != parts {
		return nil, api.ErrCorrupt
	}
	return r, api.OK
}

// scan goes through a partition to its end.
func scan(r *spill.Reader, part int) api.Errno {
	c, err := r.Scan(part)
	for some := err == api.OK; some; {
		_, some, err = c.Next()
	}
	return err
}

// merged tells a partition of all spills, by keys, of alike ones the earlier spill's first.
func merged(readers []*spill.Reader, part int) iter.Seq[api.Pair] {
	from := make([]func() (api.Pair, bool, api.Errno), 0, len(readers))
	for _, r := range readers {
		from = append(from, source(r, part))
	}
	// Neighbours are merged first, as long as there are more than one merge takes.
	for len(from) > api.MaxFan {
		bundles := make([]func() (api.Pair, bool, api.Errno), 0, len(from)/api.MaxFan+1)
		for bundle := range slices.Chunk(from, api.MaxFan) {
			bundles = append(bundles, mergeOf(bundle).Next)
		}
		from = bundles
	}
	return mergeOf(from).All()
}

// source tells a partition's pairs, one by one. It has been whole when it was looked at: a failure now ends the attempt.
func source(r *spill.Reader, part int) func() (api.Pair, bool, api.Errno) {
	c := must(r.Scan(part))
	return func() (api.Pair, bool, api.Errno) {
		pair, some, err := c.Next()
		giveUp(err)
		return pair, some, api.OK
	}
}

// mergeOf merges at most MaxFan sources.
func mergeOf(from []func() (api.Pair, bool, api.Errno)) *merge.Merge[api.Pair] {
	byKey := func(a, b api.Pair) int { return strings.Compare(a.Key, b.Key) }
	return must(merge.New(byKey, from...))
}

// giveUp ends the attempt, if there is an error.
func giveUp(err api.Errno) {
	if err != api.OK {
		panic(err)
	}
}

// must tells what a call has answered, or ends the attempt.
func must[T any](answer T, err api.Errno) T {
	giveUp(err)
	return answer
}
