package sortbuf

import (
	"math"
	"math/rand"
	"slices"
	"strings"
	"testing"

	"winnow/api"
)

// 10.1

func TestCost(t *testing.T) {
	for _, row := range []struct {
		r    api.Record
		cost int
	}{
		{rec(0, "ab", "c"), 35},
		{rec(0, "", ""), 32},
		{api.Record{}, 32},
		{rec(0, "a", ""), 33},
		{rec(0, "", "a"), 33},
		{rec(-1, "a", "b"), 34},
		{rec(math.MinInt, "a", "b"), 34},
		{rec(math.MaxInt, "a", "b"), 34},
		{rec(0, "é", "é"), 36},
		{rec(0, "\xff", "\x00\x00"), 35},
		{rec(0, strings.Repeat("k", 1024), strings.Repeat("v", 1024)), 2080},
		{rec(0, strings.Repeat("k", 1<<20), strings.Repeat("v", 1<<21)), 1<<20 + 1<<21 + 32},
	} {
		if got := Cost(row.r); got != row.cost || got != plainCost(row.r) {
			t.Errorf("Cost of %d, %d bytes: %d, and not %d", len(row.r.Key), len(row.r.Value), got, row.cost)
		}
	}
}

// 10.2

func TestCompare(t *testing.T) {
	for _, row := range []struct {
		a, b api.Record
		want int
	}{
		{rec(0, "b", ""), rec(1, "a", ""), -1},
		{rec(1, "a", "x"), rec(1, "a", "y"), 0},
		{rec(0, "a", ""), rec(0, "ab", ""), -1},
		{rec(0, "a", "z"), rec(0, "b", "a"), -1},
		{rec(0, "\xff", ""), rec(0, "a", ""), 1},
		{rec(0, "\x80", ""), rec(0, "\x7f", ""), 1},
		{rec(0, "", ""), rec(0, "\x00", ""), -1},
		{rec(-1, "z", ""), rec(0, "", ""), -1},
		{rec(-2, "z", ""), rec(-1, "", ""), -1},
		{rec(math.MinInt, "", ""), rec(math.MaxInt, "", ""), -1},
		{rec(math.MinInt, "", ""), rec(1, "", ""), -1},
		{rec(math.MaxInt, "", ""), rec(-1, "", ""), 1},
		{rec(1<<32, "", ""), rec(0, "", ""), 1},
		{api.Record{}, api.Record{}, 0},
		{rec(0, "long and alike to its end", ""), rec(0, "long and alike to its enD", ""), 1},
	} {
		if got := Compare(row.a, row.b); got != row.want {
			t.Errorf("Compare of %s: %d", written([]api.Record{row.a, row.b}), got)
		}
		if got := Compare(row.b, row.a); got != -row.want {
			t.Errorf("Compare of %s, the other way: %d", written([]api.Record{row.a, row.b}), got)
		}
	}
}

func TestCompareOfAll(t *testing.T) {
	var all []api.Record
	for _, part := range partitions() {
		for _, key := range texts() {
			all = append(all, rec(part, key, ""))
		}
	}
	for _, a := range all {
		for i, b := range all {
			a.Value, b.Value = texts()[i%7], texts()[i%5]
			if got, want := Compare(a, b), plainCompare(a, b); got != want {
				t.Fatalf("Compare of %s: %d, and not %d", written([]api.Record{a, b}), got, want)
			}
		}
	}
}

// 10.3

func TestSortExample(t *testing.T) {
	l := []api.Record{rec(1, "b", "1"), rec(0, "z", "2"), rec(1, "a", "3"), rec(1, "b", "4"), rec(0, "z", "5")}
	isSame(t, "the example", Sort(l), []api.Record{l[1], l[4], l[2], l[0], l[3]})
}

func TestSortOfFew(t *testing.T) {
	for _, l := range [][]api.Record{nil, {}, make([]api.Record, 0, 5)} {
		if got := Sort(l); len(got) != 0 {
			t.Errorf("Sort of none: %s", written(got))
		}
	}
	for _, r := range []api.Record{{}, rec(-7, "k", "v"), rec(0, strings.Repeat("k", 5000), "")} {
		isSame(t, "one", Sort([]api.Record{r}), []api.Record{r})
	}
	a, b := rec(0, "a", "2"), rec(0, "a", "1")
	isSame(t, "two alike", Sort([]api.Record{a, b}), []api.Record{a, b})
	isSame(t, "two alike", Sort([]api.Record{b, a}), []api.Record{b, a})
	isSame(t, "one twice", Sort([]api.Record{a, a}), []api.Record{a, a})
}

// All lists of up to seven records with up to three keys.
func TestSortOfAllShort(t *testing.T) {
	for n := range 8 {
		for choice := range int(math.Pow(3, float64(n))) {
			list := make([]api.Record, n)
			for i := range list {
				list[i] = rec(0, texts()[choice%3], "")
				choice /= 3
			}
			isSame(t, "a short list", Sort(numbered(list)), plainSort(list))
		}
	}
}

// lengths are the powers of two, one less and one more, and all short ones.
func lengths() []int {
	var all []int
	for n := range 70 {
		all = append(all, n)
	}
	for n := 128; n <= 1024; n *= 2 {
		all = append(all, n-1, n, n+1)
	}
	return append(all, 3*128, 1000)
}

func TestSortOfLengths(t *testing.T) {
	random := rand.New(rand.NewSource(103))
	for _, n := range lengths() {
		list := randomRecords(random, n)
		isSame(t, "any order", Sort(list), plainSort(list))

		sorted := numbered(plainSort(list))
		isSame(t, "already sorted", Sort(sorted), sorted)

		falling := slices.Clone(sorted)
		slices.Reverse(falling)
		numbered(falling)
		isSame(t, "falling", Sort(falling), plainSort(falling))

		alike := numbered(slices.Repeat([]api.Record{rec(3, "k", "")}, n))
		isSame(t, "all alike", Sort(alike), alike)

		if n == 0 {
			continue
		}
		last := append(slices.Clone(sorted[1:]), rec(sorted[0].Part, sorted[0].Key, "last"))
		isSame(t, "the first one stands last", Sort(last), plainSort(last))
	}
}

// Each of some hundred thousand records, alike ones in their order.
func TestSortOfMany(t *testing.T) {
	random := rand.New(rand.NewSource(1031))
	for _, n := range []int{1<<16 - 1, 1 << 16, 1<<16 + 1, 100003} {
		for _, keys := range []int{1, 2, 300, n} {
			list := make([]api.Record, n)
			for i := range list {
				k := random.Intn(keys)
				list[i] = rec(k%2, string([]byte{byte(k >> 16), byte(k >> 8), byte(k)}), "")
			}
			want := slices.Clone(numbered(list))
			slices.SortStableFunc(want, plainCompare)
			isSame(t, "many", Sort(list), want)
		}
	}
}

// What follows

func TestSortOfSorted(t *testing.T) {
	random := rand.New(rand.NewSource(1032))
	for range 300 {
		once := Sort(randomRecords(random, random.Intn(60)))
		isSame(t, "Sort of a sorted list", Sort(once), once)
	}
}

func TestSortOfTwoLists(t *testing.T) {
	random := rand.New(rand.NewSource(1033))
	for range 500 {
		list := randomRecords(random, random.Intn(90))
		cut := random.Intn(len(list) + 1)
		isSame(t, "two lists", Sort(list), plainMerge(Sort(list[:cut]), Sort(list[cut:])))
	}
}

func TestSortKeepsEach(t *testing.T) {
	random := rand.New(rand.NewSource(1034))
	for range 300 {
		list := randomRecords(random, random.Intn(90))
		counts := map[api.Record]int{}
		for i := range list {
			list[i].Value = texts()[i%3]
			counts[list[i]]++
		}
		for _, r := range Sort(list) {
			counts[r]--
		}
		for r, left := range counts {
			if left != 0 {
				t.Fatalf("%s: %d times too few", written([]api.Record{r}), left)
			}
		}
	}
}
