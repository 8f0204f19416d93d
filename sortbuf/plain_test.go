package sortbuf

import (
	"math"
	"math/rand"
	"slices"
	"strconv"
	"strings"
	"testing"

	"winnow/api"
)

// The calls have these signatures, to the letter.
var (
	_ func(api.Record) int                = Cost
	_ func(api.Record, api.Record) int    = Compare
	_ func([]api.Record) []api.Record     = Sort
	_ func(int) (*Buffer, api.Errno)      = New
	_ func(*Buffer, api.Record) api.Errno = (*Buffer).Add
	_ func(*Buffer) []api.Record          = (*Buffer).Take
	_ func(*Buffer) int                   = (*Buffer).Len
	_ func(*Buffer) int                   = (*Buffer).Used
)

func rec(part int, key, value string) api.Record {
	return api.Record{Part: part, Key: key, Value: value}
}

// plainCost counts by the words of 10.1.
func plainCost(r api.Record) int {
	cost := 32
	for range []byte(r.Key) {
		cost++
	}
	for range []byte(r.Value) {
		cost++
	}
	return cost
}

func plainCosts(l []api.Record) int {
	cost := 0
	for _, r := range l {
		cost += plainCost(r)
	}
	return cost
}

// plainAhead goes by the words of 10.2: a is below b.
func plainAhead(a, b api.Record) bool {
	if a.Part != b.Part {
		return a.Part < b.Part
	}
	for i := range []byte(a.Key) {
		if i == len(b.Key) {
			return false
		}
		if a.Key[i] != b.Key[i] {
			return a.Key[i] < b.Key[i]
		}
	}
	return len(a.Key) < len(b.Key)
}

func plainCompare(a, b api.Record) int {
	switch {
	case plainAhead(a, b):
		return -1
	case plainAhead(b, a):
		return 1
	}
	return 0
}

// plainSort goes by the words of 10.3: it tells each record's place by how many have to stand ahead of it.
func plainSort(l []api.Record) []api.Record {
	sorted := make([]api.Record, len(l))
	for i, r := range l {
		place := 0
		for k, other := range l {
			if plainAhead(other, r) || k < i && !plainAhead(r, other) {
				place++
			}
		}
		sorted[place] = r
	}
	return sorted
}

// plainMerge goes by the words of 'What follows': of alike ones the first list's first.
func plainMerge(first, second []api.Record) []api.Record {
	var merged []api.Record
	for len(first) > 0 || len(second) > 0 {
		if len(first) == 0 || len(second) > 0 && plainAhead(second[0], first[0]) {
			merged, second = append(merged, second[0]), second[1:]
		} else {
			merged, first = append(merged, first[0]), first[1:]
		}
	}
	return merged
}

// plainBuffer goes by the words of 10.5 to 10.7.
type plainBuffer struct {
	budget int
	list   []api.Record
}

func (p *plainBuffer) add(r api.Record) api.Errno {
	if len(p.list) > 0 && plainCosts(p.list)+plainCost(r) > p.budget {
		return api.ErrFull
	}
	p.list = append(p.list, r)
	return api.OK
}

func (p *plainBuffer) take() []api.Record {
	taken := plainSort(p.list)
	p.list = nil
	return taken
}

// texts are keys of which some begin others, with the least and the greatest bytes, and bytes above 127.
func texts() []string {
	return []string{"", "\x00", "\x00\x00", "a", "a\x00", "a\x7f", "a\x80", "a\xff", "aa", "ab", "b", "\x7f", "\x80", "\xc3\xa9", "\xff", "\xff\x00", "\xff\xff"}
}

func partitions() []int {
	return []int{math.MinInt, math.MinInt + 1, -65536, -1, 0, 1, 65534, 65535, 1 << 32, math.MaxInt - 1, math.MaxInt}
}

// numbered gives each record its place as its value, so that alike ones can be told from each other.
func numbered(l []api.Record) []api.Record {
	for i := range l {
		l[i].Value = strconv.Itoa(i)
	}
	return l
}

// randomRecords tells n records with so few partitions and keys that many are alike.
func randomRecords(random *rand.Rand, n int) []api.Record {
	keys := texts()
	parts := partitions()
	few := 1 + random.Intn(len(keys))
	fewer := 1 + random.Intn(3)
	from := random.Intn(len(parts) - fewer + 1)
	list := make([]api.Record, n)
	for i := range list {
		list[i] = rec(parts[from+random.Intn(fewer)], keys[random.Intn(few)], "")
	}
	return numbered(list)
}

func isSame(t *testing.T, what string, got, want []api.Record) {
	t.Helper()
	if !slices.Equal(got, want) {
		t.Fatalf("%s: %s, and not %s", what, written(got), written(want))
	}
}

// written tells the first ones of a list.
func written(l []api.Record) string {
	var s strings.Builder
	s.WriteString(strconv.Itoa(len(l)) + " records:")
	for _, r := range l[:min(len(l), 12)] {
		s.WriteString(" (" + strconv.Itoa(r.Part) + " " + strconv.Quote(r.Key) + " " + strconv.Quote(r.Value) + ")")
	}
	return s.String()
}

func makes(t *testing.T, budget int) *Buffer {
	t.Helper()
	b, e := New(budget)
	if e != api.OK || b == nil {
		t.Fatalf("New(%d): %v, %d", budget, b, e)
	}
	return b
}

func adds(t *testing.T, b *Buffer, want api.Errno, l ...api.Record) {
	t.Helper()
	for i, r := range l {
		if e := b.Add(r); e != want {
			t.Fatalf("Add of number %d: %d, and not %d", i, e, want)
		}
	}
}

// holds asks how many records there are, and what they cost.
func holds(t *testing.T, b *Buffer, count, used int) {
	t.Helper()
	if b.Len() != count || b.Used() != used {
		t.Fatalf("%d records that cost %d, and not %d that cost %d", b.Len(), b.Used(), count, used)
	}
}

// costing tells a record of partition 0 that costs so much.
func costing(cost int) api.Record {
	return rec(0, "", strings.Repeat("v", cost-32))
}
