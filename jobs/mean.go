package jobs

import (
	"slices"
	"sort"
	"strings"

	"winnow/api"
	"winnow/lines"
	"winnow/nums"
	"winnow/parts"
)

// Mean tells the plain meaning of a job: the text of each part, and how many things were dropped.
func Mean(j api.Job, splits []api.Split) ([]string, int64, api.Errno) {
	if areTooLong(splits) {
		return nil, 0, api.ErrLong
	}
	if err := Check(j.Kind); err != api.OK {
		return nil, 0, err
	}
	if err := parts.Check(j); err != api.OK {
		return nil, 0, err
	}
	gathered, dropped := gather(j, splits)
	texts := make([]string, j.Parts)
	for part := range texts {
		texts[part] = textOf(j.Kind, gathered[part])
	}
	return texts, dropped, api.OK
}

// areTooLong tells whether there are more splits, or more bytes of them, than may be.
func areTooLong(splits []api.Split) bool {
	if len(splits) > api.MaxTasks {
		return true
	}
	all := 0
	for _, split := range splits {
		if len(split.Text) > api.MaxSplit {
			return true
		}
		all += len(split.Text)
	}
	return all > api.MaxText
}

// gather tells the pairs of each partition, in the order in which the lines give them, and how many things were dropped.
func gather(j api.Job, splits []api.Split) (map[int][]api.Pair, int64) {
	gathered := make(map[int][]api.Pair)
	var dropped int64
	for _, split := range splits {
		for place, line := range lines.All(split) {
			pairs, count := Map(j.Kind, place, line)
			dropped += int64(count)
			for _, pair := range pairs {
				part := partOf(j, pair.Key)
				gathered[part] = append(gathered[part], pair)
			}
		}
	}
	return gathered, dropped
}

// partOf tells the partition of a key, as parts.Of does, in a job that parts.Check has taken.
func partOf(j api.Job, key string) int {
	if len(j.Bounds) == 0 {
		return parts.Of(j, key)
	}
	// By halving: parts.Of checks all the bounds anew for each key, and there may be many of both.
	return sort.Search(len(j.Bounds), func(place int) bool {
		return parts.Range(j.Bounds[place:place+1], key) == 0
	})
}

// textOf tells the text of a partition. The pairs are put in order.
func textOf(kind int, pairs []api.Pair) string {
	slices.SortStableFunc(pairs, func(a, b api.Pair) int {
		return nums.Compare(a.Key, b.Key)
	})
	var text strings.Builder
	for len(pairs) > 0 {
		values := firstValues(pairs)
		for _, value := range Reduce(kind, values) {
			text.WriteString(Line(pairs[0].Key, value))
		}
		pairs = pairs[len(values):]
	}
	return text.String()
}

// firstValues tells the values of the first key, of pairs in order.
func firstValues(pairs []api.Pair) []string {
	var values []string
	for _, pair := range pairs {
		if pair.Key != pairs[0].Key {
			break
		}
		values = append(values, pair.Value)
	}
	return values
}
