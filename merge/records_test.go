package merge

import (
	"math"
	"math/rand"
	"slices"
	"strconv"
	"testing"

	"winnow/api"
)

// 11.4

// isBelow goes by the words: by partition, and of one partition by key, byte by byte.
func isBelow(a, b api.Record) bool {
	if a.Part != b.Part {
		return a.Part < b.Part
	}
	return slices.Compare([]byte(a.Key), []byte(b.Key)) < 0
}

// plainRecords goes by the words: an error, or each record at the place that is how many have to stand ahead of it.
func plainRecords(lists [][]api.Record) ([]api.Record, api.Errno) {
	if len(lists) > 64 {
		return nil, api.ErrArg
	}
	var all []api.Record
	for _, l := range lists {
		for i := 1; i < len(l); i++ {
			if isBelow(l[i], l[i-1]) {
				return nil, api.ErrOrder
			}
		}
		all = append(all, l...)
	}
	merged := make([]api.Record, len(all))
	for i, r := range all {
		place := 0
		for k, other := range all {
			if isBelow(other, r) || k < i && !isBelow(r, other) {
				place++
			}
		}
		merged[place] = r
	}
	return merged, api.OK
}

func records(t *testing.T, lists [][]api.Record) {
	t.Helper()
	got, err := Records(lists)
	want, wantErr := plainRecords(lists)
	if err != wantErr {
		t.Fatalf("Records of %v: %d, and not %d", lists, err, wantErr)
	}
	isSame(t, "Records", got, want)
}

// randomLists makes sorted lists with few partitions and keys; each record's value tells its list and place.
func randomLists(random *rand.Rand, count int) [][]api.Record {
	keys := []string{"", "\x00", "a", "a\x00", "a\x7f", "a\x80", "ab", "b", "\x7f", "\xc3\xa9", "\xff"}
	parts := []int{math.MinInt, -1, 0, 1, 2, 65534, math.MaxInt}
	fewKeys, fewParts := 1+random.Intn(len(keys)), 1+random.Intn(len(parts))
	long := random.Intn(9)
	lists := make([][]api.Record, count)
	for of := range lists {
		for range random.Intn(long + 1) {
			lists[of] = append(lists[of], rec(parts[random.Intn(fewParts)], keys[random.Intn(fewKeys)], ""))
		}
		slices.SortFunc(lists[of], func(a, b api.Record) int {
			if isBelow(a, b) {
				return -1
			}
			return 1
		})
		for i := range lists[of] {
			lists[of][i].Value = strconv.Itoa(1000*of + 999 - i)
		}
	}
	return lists
}

func TestRecordsExample(t *testing.T) {
	l, err := Records([][]api.Record{{rec(1, "b", "first")}, {rec(0, "c", ""), rec(1, "b", "second")}})
	if err != api.OK {
		t.Fatalf("error %d", err)
	}
	isSame(t, "the example", l, []api.Record{rec(0, "c", ""), rec(1, "b", "first"), rec(1, "b", "second")})
}

func TestRecordsOfFew(t *testing.T) {
	for _, lists := range [][][]api.Record{nil, {}, {nil}, {{}}, {nil, {}, nil}, make([][]api.Record, 64)} {
		if l, err := Records(lists); len(l) != 0 || err != api.OK {
			t.Errorf("of %d empty lists: %v, %d", len(lists), l, err)
		}
	}
	one := []api.Record{rec(0, "", ""), rec(0, "", "z"), rec(0, "", "a"), rec(0, "k", "")}
	records(t, [][]api.Record{one})
	records(t, [][]api.Record{nil, one, nil})
	records(t, [][]api.Record{one, one, one})
	records(t, [][]api.Record{{rec(0, "b", "1")}, {rec(0, "a", "2")}})
	records(t, [][]api.Record{{rec(0, "b", "1")}, {rec(-1, "c", "2")}})
}

func TestRecordsOfAny(t *testing.T) {
	random := rand.New(rand.NewSource(114))
	for _, count := range counts() {
		for range 40 {
			records(t, randomLists(random, count))
		}
	}
}

// Values are not looked at, and a fall of the partition counts whatever the key.
func TestRecordsThatFall(t *testing.T) {
	for _, c := range []struct {
		lists [][]api.Record
		err   api.Errno
	}{
		{[][]api.Record{{rec(0, "a", "b"), rec(0, "a", "a")}}, api.OK},
		{[][]api.Record{{rec(0, "b", ""), rec(1, "a", "")}}, api.OK},
		{[][]api.Record{{rec(1, "a", ""), rec(0, "b", "")}}, api.ErrOrder},
		{[][]api.Record{{rec(0, "b", ""), rec(0, "a", "")}}, api.ErrOrder},
		{[][]api.Record{{rec(0, "a\x00", ""), rec(0, "a", "")}}, api.ErrOrder},
		{[][]api.Record{{rec(0, "\x80", ""), rec(0, "\x7f", "")}}, api.ErrOrder},
		{[][]api.Record{{rec(0, "", ""), rec(-1, "", "")}}, api.ErrOrder},
		{[][]api.Record{{rec(math.MaxInt, "", ""), rec(math.MinInt, "", "")}}, api.ErrOrder},
		{[][]api.Record{nil, {rec(0, "a", "")}, {rec(0, "b", ""), rec(0, "a", "")}}, api.ErrOrder},
		{[][]api.Record{{rec(9, "z", "")}, {rec(0, "a", ""), rec(0, "b", ""), rec(0, "a", "")}}, api.ErrOrder},
		{[][]api.Record{{rec(0, "a", ""), rec(0, "b", ""), rec(9, "z", ""), rec(9, "y", "")}, {rec(0, "a", "")}}, api.ErrOrder},
		{append(make([][]api.Record, 64), []api.Record{rec(0, "b", ""), rec(0, "a", "")}), api.ErrArg},
		{append([][]api.Record{{rec(0, "b", ""), rec(0, "a", "")}}, make([][]api.Record, 63)...), api.ErrOrder},
		{append([][]api.Record{{rec(0, "b", ""), rec(0, "a", "")}}, make([][]api.Record, 64)...), api.ErrArg},
		{make([][]api.Record, 65), api.ErrArg},
		{make([][]api.Record, 100000), api.ErrArg},
	} {
		l, err := Records(c.lists)
		if err != c.err || err != api.OK && len(l) != 0 {
			t.Errorf("%d lists, the first one %v: %v, %d, and not %d", len(c.lists), c.lists[0], l, err, c.err)
		}
	}
}

// Each place at which one of many lists may fall.
func TestRecordsThatFallAnywhere(t *testing.T) {
	random := rand.New(rand.NewSource(1141))
	for range 1500 {
		lists := randomLists(random, 1+random.Intn(9))
		of := random.Intn(len(lists))
		if len(lists[of]) < 2 {
			continue
		}
		i := 1 + random.Intn(len(lists[of])-1)
		lists[of][i].Part = lists[of][i-1].Part
		lists[of][i].Key = []string{"", lists[of][i-1].Key[:len(lists[of][i-1].Key)/2], "a"}[random.Intn(3)]
		records(t, lists)
	}
}

func TestRecordsOfMany(t *testing.T) {
	random := rand.New(rand.NewSource(1142))
	lists := make([][]api.Record, 64)
	for i := range 100000 {
		of := random.Intn(len(lists))
		lists[of] = append(lists[of], rec(i/50000, strconv.Itoa(10000+i%50000/40), strconv.Itoa(i)))
	}
	var want []api.Record
	for _, l := range lists {
		want = append(want, l...)
	}
	slices.SortStableFunc(want, func(a, b api.Record) int {
		switch {
		case isBelow(a, b):
			return -1
		case isBelow(b, a):
			return 1
		}
		return 0
	})
	got, err := Records(lists)
	if err != api.OK {
		t.Fatalf("error %d", err)
	}
	isSame(t, "many", got, want)
}
