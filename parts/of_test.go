package parts

import (
	"math"
	"math/rand"
	"slices"
	"strings"
	"testing"

	"winnow/api"
)

// 14.3

func TestRangeExamples(t *testing.T) {
	for _, c := range []struct {
		bounds []string
		key    string
		want   int
	}{
		{words("c f"), "a", 0},
		{words("c f"), "", 0},
		{words("c f"), "bzz", 0},
		{words("c f"), "c", 1},
		{words("c f"), "c\x00", 1},
		{words("c f"), "ca", 1},
		{words("c f"), "e\xff", 1},
		{words("c f"), "f", 2},
		{words("c f"), "z", 2},
		{words("c f"), "\xff", 2},
		{nil, "x", 0},
		{[]string{}, "", 0},
		{[]string{"", ""}, "", 2},
		{[]string{"", ""}, "a", 2},
		{[]string{""}, "", 1},
		{words("c"), "b", 0},
		{words("c"), "c", 1},
		{words("c c c"), "b", 0},
		{words("c c c"), "c", 3},
		{words("c c c"), "d", 3},
		{words("b c c d"), "c", 3},
		{words("f c"), "d", 1},
		{words("f c"), "a", 0},
		{words("f c"), "f", 2},
		{words("z a z a z"), "m", 2},
		{words("m z a"), "n", 2},
		{words("a z a z a"), "a", 3},
		{words("z y x w a"), "b", 1},
		{[]string{"\x80", "\x7f"}, "\x7f\xff", 1},
		{[]string{"k\xff", "k", "kk"}, "k\x80", 2},
	} {
		isNumber(t, "Range of "+written(c.bounds)+" and "+c.key, Range(c.bounds, c.key), c.want)
	}
}

// All lists of up to four of four bounds, in any order, and all keys at them, below, between and above.
func TestRangeOfShortLists(t *testing.T) {
	lists := [][]string{nil}
	for from, most := 0, 4; most > 0; most-- {
		to := len(lists)
		for _, list := range lists[from:to] {
			for _, bound := range []string{"", "b", "b\x00", "d"} {
				lists = append(lists, append(slices.Clone(list), bound))
			}
		}
		from = to
	}
	for _, list := range lists {
		for _, key := range []string{"", "\x00", "a", "b", "b\x00", "b\x00\x00", "b\x01", "c", "d", "d\x00", "\xff"} {
			isNumber(t, "Range of "+written(list)+" and "+key, Range(list, key), plainRange(list, key))
			sorted := slices.Sorted(slices.Values(list))
			isNumber(t, "Range of sorted bounds", Range(sorted, key), Range(list, key))
		}
	}
}

func TestRangeOfAnyList(t *testing.T) {
	random := rand.New(rand.NewSource(143))
	for range 5000 {
		list := randomKeys(random, 40)
		key := randomKey(random)
		isNumber(t, "Range of "+written(list), Range(list, key), plainRange(list, key))
	}
	all := keys()
	for _, key := range all {
		isNumber(t, "Range of "+key, Range(all, key), plainRange(all, key))
	}
}

// Neither the list nor its bounds nor the key have a bound here.
func TestRangeOfLongLists(t *testing.T) {
	list := make([]string, 100000)
	isNumber(t, "Range of many", Range(list, ""), 100000)
	list[5] = strings.Repeat("k", 5000)
	list[99999] = strings.Repeat("k", 5001)
	isNumber(t, "a long key", Range(list, strings.Repeat("k", 4999)), 99998)
	isNumber(t, "a long key", Range(list, strings.Repeat("k", 5000)), 99999)
	isNumber(t, "a long key", Range(list, strings.Repeat("k", 5002)), 100000)
}

// 14.4

func TestCheckExamples(t *testing.T) {
	full, more := strings.Repeat("k", 1024), strings.Repeat("k", 1025)
	for _, c := range []struct {
		parts  int
		bounds []string
		want   api.Errno
	}{
		{3, words("c f"), api.OK},
		{3, words("f c"), api.ErrBounds},
		{3, words("c"), api.ErrBounds},
		{0, nil, api.ErrArg},
		{1, nil, api.OK},
		{1, []string{}, api.OK},
		{1, []string{""}, api.ErrBounds},
		{1, words("c f"), api.ErrBounds},
		{2, []string{}, api.OK},
		{2, []string{""}, api.OK},
		{2, words("c"), api.OK},
		{2, words("c f"), api.ErrBounds},
		{3, words("c c"), api.OK},
		{3, []string{"", ""}, api.OK},
		{3, []string{"", "\x00"}, api.OK},
		{3, []string{"\x00", ""}, api.ErrBounds},
		{3, words("c f g"), api.ErrBounds},
		{4, words("c f"), api.ErrBounds},
		{4, words("c f e"), api.ErrBounds},
		{4, words("d c e"), api.ErrBounds},
		{4, words("c c d"), api.OK},
		{3, words("ab a"), api.ErrBounds},
		{3, words("a ab"), api.OK},
		{3, []string{"\x7f", "\x80"}, api.OK},
		{3, []string{"\x80", "\x7f"}, api.ErrBounds},
		{3, []string{"a", "A"}, api.ErrBounds},
		{3, []string{"10", "9"}, api.OK},
		{3, []string{"9", "10"}, api.ErrBounds},
		{2, []string{full}, api.OK},
		{2, []string{more}, api.ErrBounds},
		{3, []string{full, more}, api.ErrBounds},
		{3, []string{more, "l"}, api.ErrBounds},
		{3, []string{"a", more}, api.ErrBounds},
		{4, []string{"a", more, "z"}, api.ErrBounds},
		{65535, nil, api.OK},
		{65535, words("c"), api.ErrBounds},
		{65535, make([]string, 65534), api.OK},
		{65535, make([]string, 65533), api.ErrBounds},
		{65535, make([]string, 65535), api.ErrBounds},
		{65534, make([]string, 65534), api.ErrBounds},
		{65536, make([]string, 65535), api.ErrArg},
	} {
		isError(t, "Check of "+written(c.bounds), Check(api.Job{Parts: c.parts, Bounds: c.bounds}), c.want)
	}
}

// A number of partitions that may not be is told ahead of all that is wrong with bounds.
func TestCheckOfEachNumber(t *testing.T) {
	more := strings.Repeat("k", 1025)
	for _, n := range numbers() {
		right := n >= 1 && n <= api.MaxParts
		for _, list := range [][]string{nil, {}, words("c"), words("f c"), words("c f"), {more}, {more, "a"}, make([]string, 65535), make([]string, 65536)} {
			want := plainCheck(api.Job{Parts: n, Bounds: list})
			if !right {
				want = api.ErrArg
			} else if len(list) == 0 {
				want = api.OK
			}
			isError(t, "Check of "+written(list), Check(api.Job{Parts: n, Bounds: list}), want)
		}
	}
}

func TestCheckOfAnyJob(t *testing.T) {
	random := rand.New(rand.NewSource(144))
	found := map[api.Errno]int{}
	for range 5000 {
		j := randomJob(random)
		want := plainCheck(j)
		found[want]++
		isError(t, "Check of "+written(j), Check(j), want)
	}
	if found[api.OK] < 500 || found[api.ErrArg] < 100 || found[api.ErrBounds] < 500 {
		t.Errorf("how many of each kind: %v", found)
	}
}

// A fall at any place, and a bound too long at any place, is found.
func TestCheckOfOneWrongBound(t *testing.T) {
	for at := range 50 {
		list := numbered(50)
		j := api.Job{Parts: 51, Bounds: list}
		isError(t, "Check", Check(j), api.OK)
		right := list[at]
		list[at] += strings.Repeat("x", 1019)
		isError(t, "Check of MaxLen bytes", Check(j), api.OK)
		list[at] += "x"
		isError(t, "Check of one byte more", Check(j), api.ErrBounds)
		if list[at] = right; at > 0 {
			list[at] = list[at-1]
			isError(t, "Check of alike ones", Check(j), api.OK)
			list[at] = list[at-1][:4]
			isError(t, "Check of a fall", Check(j), api.ErrBounds)
		}
	}
}

// Nothing else of a job is asked.
func TestCheckAsksForPartsAndBoundsAlone(t *testing.T) {
	for _, bounds := range [][]string{nil, words("c f"), words("f c")} {
		plain := api.Job{Parts: 3, Bounds: bounds}
		other := plain
		other.Kind, other.Combine, other.Budget, other.Fan, other.Tries = -9, true, math.MinInt, math.MaxInt, -1
		other.Shape = api.Shape{Block: -1, Restart: 99, Bits: math.MinInt}
		isError(t, "Check", Check(other), Check(plain))
		for _, key := range keys() {
			isNumber(t, "Of "+key, Of(other, key), Of(plain, key))
		}
	}
	isError(t, "Check of a zero job", Check(api.Job{}), api.ErrArg)
}

// randomJob tells jobs whose bounds are right, or nearly so.
func randomJob(random *rand.Rand) api.Job {
	j := api.Job{Bounds: randomKeys(random, 12)}
	if random.Intn(3) > 0 {
		slices.Sort(j.Bounds)
	}
	j.Parts = len(j.Bounds) + 1
	switch random.Intn(10) {
	case 0:
		j.Parts += random.Intn(5) - 2
	case 1:
		j.Parts = numbers()[random.Intn(len(numbers()))]
	case 2:
		j.Parts, j.Bounds = 1+random.Intn(api.MaxParts), nil
	case 3:
		if len(j.Bounds) > 0 {
			j.Bounds[random.Intn(len(j.Bounds))] += strings.Repeat("x", 1025)
		}
	}
	return j
}

// 14.5

func TestOfExamples(t *testing.T) {
	cf := words("c f")
	for _, c := range []struct {
		parts  int
		bounds []string
		key    string
		want   int
	}{
		{3, cf, "a", 0},
		{3, cf, "c", 1},
		{3, cf, "ca", 1},
		{3, cf, "f", 2},
		{3, cf, "z", 2},
		{3, []string{"", ""}, "", 2},
		{3, nil, "123456789", 0xE3069283 % 3},
		{3, []string{}, "123456789", 0xE3069283 % 3},
		{7, nil, "", 0},
		{10, nil, "abc", 0x364B3FB7 % 10},
		{65535, nil, "a", 0xC1D04330 % 65535},
		{1, nil, "z", 0},
		{0, nil, "abc", 0},
		{-1, nil, "abc", 0},
		{65536, nil, "abc", 0},
		{3, words("f c"), "z", 0},
		{3, words("f c"), "d", 0},
		{3, words("c"), "z", 0},
		{2, cf, "z", 0},
		{1, cf, "z", 0},
		{4, cf, "z", 0},
		{0, cf, "z", 0},
		{math.MinInt, cf, "z", 0},
		{math.MaxInt, cf, "z", 0},
		{2, []string{strings.Repeat("k", 1024)}, "z", 1},
		{2, []string{strings.Repeat("k", 1025)}, "z", 0},
		{65536, make([]string, 65535), "z", 0},
		{65535, make([]string, 65534), "", 65534},
	} {
		isNumber(t, "Of "+written(c.bounds)+" and "+c.key, Of(api.Job{Parts: c.parts, Bounds: c.bounds}, c.key), c.want)
	}
}

func TestOfAnyJob(t *testing.T) {
	random := rand.New(rand.NewSource(145))
	for range 5000 {
		j := randomJob(random)
		for range 5 {
			key := randomKey(random)
			isNumber(t, "Of "+written(j)+" and "+key, Of(j, key), plainOf(j, key))
		}
	}
}

func TestOfIsHashOrRange(t *testing.T) {
	random := rand.New(rand.NewSource(1451))
	for _, key := range keys() {
		n := 1 + random.Intn(api.MaxParts)
		isNumber(t, "Of, by hash", Of(api.Job{Parts: n}, key), Hash(key, n))
		list := slices.Sorted(slices.Values(randomKeys(random, 40)))
		if len(list) > 0 {
			isNumber(t, "Of, by bounds", Of(api.Job{Parts: len(list) + 1, Bounds: list}, key), Range(list, key))
		}
	}
}

// Halving finds its place among any number of bounds.
func TestOfEachNumberOfBounds(t *testing.T) {
	for count := 1; count <= 130; count++ {
		list := numbered(count)
		j := api.Job{Parts: count + 1, Bounds: list}
		isNumber(t, "below all", Of(j, "0000"), 0)
		for i, bound := range list {
			isNumber(t, "just below", Of(j, bound[:4]), i-i%16)
			isNumber(t, "at a bound", Of(j, bound), i+1)
			isNumber(t, "between two", Of(j, bound+"x"), i+1)
		}
		isNumber(t, "above all", Of(j, "z"), count)
	}
}

// What follows: parts of keys

func TestOfIsAlwaysAPart(t *testing.T) {
	random := rand.New(rand.NewSource(1452))
	for range 3000 {
		j := randomJob(random)
		for range 5 {
			key := randomKey(random)
			part := Of(j, key)
			if part < 0 || part >= max(j.Parts, 1) {
				t.Fatalf("the part %d of %s", part, written(j))
			}
			isNumber(t, "once more", Of(j, strings.Clone(key)), part)
		}
	}
}

// Other calls between do not show.
func TestOneKeyHasOnePart(t *testing.T) {
	jobs := []api.Job{{Parts: 7}, {Parts: 3, Bounds: words("c f")}, {Parts: 65535}, {Parts: 3, Bounds: words("f c")}, {Parts: 0}}
	first := map[[2]string]int{}
	for turn := range 3 {
		for at, j := range jobs {
			for _, key := range keys() {
				name := [2]string{written(at), key}
				if turn == 0 {
					first[name] = Of(j, key)
				}
				isNumber(t, "Of "+key, Of(j, key), first[name])
			}
		}
	}
}

// Of two keys the lower one's part is never the higher.
func TestRangeDoesNotFall(t *testing.T) {
	random := rand.New(rand.NewSource(1453))
	for range 300 {
		list := slices.Sorted(slices.Values(randomKeys(random, 30)))
		sorted := plainSorted(append(randomKeys(random, 60), list...))
		before := 0
		for _, key := range sorted {
			part := Range(list, key)
			if part < before {
				t.Fatalf("the part falls from %d to %d at %q", before, part, key)
			}
			before = part
			if len(list) > 0 {
				isNumber(t, "Of", Of(api.Job{Parts: len(list) + 1, Bounds: list}, key), part)
			}
		}
	}
}

// A key that is a bound belongs to the part behind it, behind the last of alike ones.
func TestABoundIsOfThePartBehindIt(t *testing.T) {
	random := rand.New(rand.NewSource(1454))
	for range 500 {
		list := slices.Sorted(slices.Values(randomKeys(random, 30)))
		for i, bound := range list {
			if i+1 < len(list) && list[i+1] == bound {
				continue
			}
			isNumber(t, "Range at a bound", Range(list, bound), i+1)
			isNumber(t, "Of a bound", Of(api.Job{Parts: len(list) + 1, Bounds: list}, bound), i+1)
		}
	}
}
