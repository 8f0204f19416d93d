package parts

import (
	"math/rand"
	"slices"
	"strings"
	"testing"

	"winnow/api"
)

// 14.2

func TestBoundsExamples(t *testing.T) {
	for _, c := range []struct {
		sample string
		n      int
		want   []string
	}{
		{"d b a c", 2, words("c")},
		{"d b a c", 4, words("b c d")},
		{"a a a", 3, words("a a")},
		{"", 3, []string{"", ""}},
		{"", 1, nil},
		{"", 2, []string{""}},
		{"d b a c", 1, nil},
		{"d b a c", 3, words("b c")},
		{"d b a c", 5, words("a b c d")},
		{"d b a c", 8, words("a b b c c d d")},
		{"b a", 5, words("a a b b")},
		{"k", 2, words("k")},
		{"k", 4, words("k k k")},
		{"e d c b a", 2, words("c")},
		{"e d c b a", 3, words("b d")},
		{"b a b a b", 5, words("a b b b")},
		{"a b", 3, words("a b")},
		{"10 9 1 2", 4, words("10 2 9")},
		{"ab a abc b", 4, words("ab abc b")},
	} {
		isSame(t, "Bounds of "+c.sample, bounds(t, words(c.sample), c.n), c.want)
		isSame(t, "in the other order", bounds(t, backwards(words(c.sample)), c.n), c.want)
	}
}

func backwards(list []string) []string {
	slices.Reverse(list)
	return list
}

// The order is byte by byte: zeros and bytes above 127 are bytes like others, and a text is below one that goes on.
func TestBoundsOfBytes(t *testing.T) {
	random := rand.New(rand.NewSource(142))
	sample := []string{"", "\x00", "\x00\x00", "\x01", "A", "a", "a\x00", "aa", "b", "\x7f", "\x80", "é", "日", "\xff", "\xff\x00", "\xff\xff"}
	for range 20 {
		isSame(t, "Bounds", bounds(t, shuffled(random, sample), len(sample)), sample[1:])
	}
	var each []string
	for b := range 256 {
		each = append(each, string([]byte{byte(b)}))
	}
	isSame(t, "Bounds of each byte", bounds(t, shuffled(random, each), 256), each[1:])
	isSame(t, "of each second one", bounds(t, shuffled(random, each), 2), each[128:129])
}

func TestBoundsOfAnySample(t *testing.T) {
	random := rand.New(rand.NewSource(1421))
	for range 3000 {
		sample := randomKeys(random, 30)
		n := 1 + random.Intn(50)
		want, _ := plainBounds(sample, n)
		isSame(t, "Bounds of "+written(sample), bounds(t, sample, n), want)
	}
	for m := range 14 {
		for n := 1; n < 40; n++ {
			sample := numbered(m)
			want, _ := plainBounds(sample, n)
			isSame(t, "Bounds of some numbers", bounds(t, shuffled(random, sample), n), want)
		}
	}
}

// Alike keys count as often as they are there.
func TestBoundsOfAlikeKeys(t *testing.T) {
	isSame(t, "one is often there", bounds(t, words("a b b b b b b b c d"), 5), words("b b b c"))
	isSame(t, "two are often there", bounds(t, words("a a a c b c c a c a"), 4), words("a b c"))
	isSame(t, "the last one is often there", bounds(t, words("z z z z z z z a"), 8), words("z z z z z z z"))
	isSame(t, "texts without bytes", bounds(t, []string{"", "a", "", ""}, 4), []string{"", "", "a"})
}

// Products above 2^31: all places of the greatest samples and numbers.
func TestBoundsOfTheGreatest(t *testing.T) {
	random := rand.New(rand.NewSource(1422))
	for _, m := range []int{1, 2, 32767, 65534, 65535, 65536} {
		sample := numbered(m)
		given := shuffled(random, sample)
		for _, n := range []int{1, 2, 65534, 65535} {
			got := bounds(t, given, n)
			isNumber(t, "how many bounds", len(got), n-1)
			for i, bound := range got {
				if place := uint64(i+1) * uint64(m) / uint64(n); bound != sample[place] {
					t.Fatalf("the bound number %d of %d, of %d keys: %q, and not %q", i+1, n-1, m, bound, sample[place])
				}
			}
		}
	}
	none := bounds(t, nil, api.MaxParts)
	isSame(t, "Bounds of no sample", none, make([]string, api.MaxParts-1))
	isSame(t, "Bounds of an empty sample", bounds(t, []string{}, api.MaxParts), none)
}

func TestBoundsOfLongKeys(t *testing.T) {
	full, more := strings.Repeat("k", 1024), strings.Repeat("k", 1025)
	low := strings.Repeat("k", 1023) + "j"
	isSame(t, "keys of MaxLen bytes", bounds(t, []string{full, low}, 2), []string{full})
	isSame(t, "keys of MaxLen bytes", bounds(t, []string{full, "z", low}, 3), []string{full, "z"})
	for _, sample := range [][]string{{more}, {"a", more}, {more, "a"}, {"a", more, "b"}, {full, more}, {strings.Repeat("\xff", 1<<20)}} {
		// Whether the long key would come to be a bound or not.
		for _, n := range []int{1, 2, 3, 65535} {
			isRefused(t, sample, n, api.ErrBounds)
		}
	}
}

func isRefused(t *testing.T, sample []string, n int, want api.Errno) {
	t.Helper()
	got, err := Bounds(sample, n)
	isError(t, "Bounds of "+written(sample), err, want)
	isNumber(t, "bounds beside an error", len(got), 0)
}

func TestBoundsErrors(t *testing.T) {
	long := strings.Repeat("k", 1025)
	most := make([]string, api.MaxSample)
	tooMany := make([]string, api.MaxSample+1)
	tooManyLong := make([]string, api.MaxSample+1)
	tooManyLong[7] = long
	mostLong := make([]string, api.MaxSample)
	mostLong[api.MaxSample-1] = long
	for _, n := range numbers() {
		isRefused(t, tooMany, n, api.ErrLong)
		isRefused(t, tooManyLong, n, api.ErrLong)
		if n >= 1 && n <= api.MaxParts {
			isSame(t, "Bounds", bounds(t, most, n), make([]string, n-1))
			isRefused(t, []string{long}, n, api.ErrBounds)
			isRefused(t, mostLong, n, api.ErrBounds)
			continue
		}
		for _, sample := range [][]string{nil, {}, {"a"}, {long}, {"a", long}, most, mostLong} {
			isRefused(t, sample, n, api.ErrArg)
		}
	}
}

// What follows: bounds of a sample

// tellBounds holds bounds against what is said of them.
func tellBounds(t *testing.T, sample []string, n int) []string {
	t.Helper()
	list := bounds(t, sample, n)
	isNumber(t, "how many bounds", len(list), n-1)
	for i, bound := range list {
		if i > 0 && plainBelow(bound, list[i-1]) {
			t.Fatalf("bounds that fall: %s", written(list))
		}
		if _, some := slices.BinarySearch(slices.Sorted(slices.Values(sample)), bound); !some && len(sample) > 0 {
			t.Fatalf("a bound that is no key: %s", written(bound))
		}
	}
	isError(t, "Check of bounds", Check(api.Job{Parts: n, Bounds: list}), api.OK)
	return list
}

func TestBoundsAreTaken(t *testing.T) {
	random := rand.New(rand.NewSource(1423))
	for range 2000 {
		tellBounds(t, randomKeys(random, 30), 1+random.Intn(60))
	}
	for n := 1; n < 20; n++ {
		tellBounds(t, nil, n)
	}
	tellBounds(t, nil, api.MaxParts)
	for range 10 {
		tellBounds(t, []string{strings.Repeat("k", 1024), ""}, 1+random.Intn(1000))
	}
}

// Of n keys, all unlike, each of the n parts has just one.
func TestEachPartHasOneKey(t *testing.T) {
	random := rand.New(rand.NewSource(1424))
	for n := 1; n <= 300; n++ {
		oneKeyEach(t, shuffled(random, numbered(n)))
	}
	for range 200 {
		sample := randomKeys(random, 60)
		slices.Sort(sample)
		if sample = slices.Compact(sample); len(sample) > 1 {
			oneKeyEach(t, shuffled(random, sample))
		}
	}
}

func oneKeyEach(t *testing.T, sample []string) {
	t.Helper()
	n := len(sample)
	j := api.Job{Parts: n, Bounds: bounds(t, sample, n)}
	counts := make([]int, n)
	for _, key := range sample {
		counts[Range(j.Bounds, key)]++
		isNumber(t, "Of and Range", Of(j, key), Range(j.Bounds, key))
	}
	for part, count := range counts {
		if count != 1 {
			t.Fatalf("of %d parts the part %d has %d keys", n, part, count)
		}
	}
}

// So it is with the greatest number of parts.
func TestEachOfAllPartsHasOneKey(t *testing.T) {
	sorted := numbered(api.MaxParts)
	list := bounds(t, shuffled(rand.New(rand.NewSource(1425)), sorted), api.MaxParts)
	isSame(t, "Bounds", list, sorted[1:])
	for _, place := range []int{0, 1, 2, 30000, 65532, 65533, 65534} {
		isNumber(t, "Range", Range(list, sorted[place]), place)
		isNumber(t, "Of", Of(api.Job{Parts: api.MaxParts, Bounds: list}, sorted[place]), place)
	}
}
