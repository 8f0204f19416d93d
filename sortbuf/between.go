package sortbuf

// sortBetween sorts the things of list, with room for as many beside it: both are written over, and one of them is the answer.
func sortBetween[T any](list, room []T, compare func(a, b T) int) []T {
	for width := 1; width < len(list); width *= 2 {
		for from := 0; from < len(list); from += 2 * width {
			middle := min(from+width, len(list))
			end := min(middle+width, len(list))
			mergeInto(room[from:end], list[from:middle], list[middle:end], compare)
		}
		list, room = room, list
	}
	return list
}

// mergeInto takes the left one of two alike things first, as it came first.
func mergeInto[T any](out, left, right []T, compare func(a, b T) int) {
	for i := range out {
		if len(right) == 0 || len(left) > 0 && compare(left[0], right[0]) <= 0 {
			out[i], left = left[0], left[1:]
		} else {
			out[i], right = right[0], right[1:]
		}
	}
}
