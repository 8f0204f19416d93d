package huff

import (
	"container/heap"
	"math"
	"math/rand"
	"slices"
	"sort"
	"testing"

	"winnow/api"
)

// The calls have these signatures, to the letter.
var (
	_ func([]int64, int) ([]int, api.Errno)     = Lengths
	_ func([]int64, []int) (int64, api.Errno)   = Cost
	_ func([]int) ([]api.Code, api.Errno)       = Codes
	_ func(text []byte) ([]byte, api.Errno)     = Encode
	_ func(b []byte, n int) ([]byte, api.Errno) = Decode
)

// plainThing is a thing or a package: what it weighs, and the symbols in it.
type plainThing struct {
	weight int64
	in     []int
}

// plainLengths goes by the words of promise 4.1, with all rows to their ends, and with numbers of its own.
func plainLengths(counts []int64, limit int) ([]int, api.Errno) {
	if len(counts) > 256 {
		return nil, api.ErrLong
	}
	if limit < 1 || limit > 15 {
		return nil, api.ErrArg
	}
	var things []plainThing
	for s := len(counts) - 1; s >= 0; s-- {
		if counts[s] < 0 || counts[s] > 1<<40 {
			return nil, api.ErrArg
		}
		if counts[s] > 0 {
			things = append(things, plainThing{counts[s], []int{s}})
		}
	}
	sort.SliceStable(things, func(i, j int) bool { return things[i].weight < things[j].weight })
	k := len(things)
	if k > 1<<limit {
		return nil, api.ErrLimit
	}
	lens := make([]int, len(counts))
	if k == 1 {
		lens[things[0].in[0]] = 1
	}
	if k < 2 {
		return lens, api.OK
	}
	row := things
	for j := 1; j < limit; j++ {
		next := slices.Clone(things)
		for i := 0; i+1 < len(row); i += 2 {
			next = append(next, plainThing{row[i].weight + row[i+1].weight, slices.Concat(row[i].in, row[i+1].in)})
		}
		sort.SliceStable(next, func(a, b int) bool { return next[a].weight < next[b].weight })
		row = next
	}
	for _, p := range row[:2*k-2] {
		for _, s := range p.in {
			lens[s]++
		}
	}
	return lens, api.OK
}

// share tells the sum of 1 / 2^lens[i] over the symbols with a word, in parts of 2^15.
func share(lens []int) int {
	sum := 0
	for _, l := range lens {
		if l > 0 {
			sum += 1 << (15 - l)
		}
	}
	return sum
}

func plainCost(counts []int64, lens []int) int64 {
	cost := int64(0)
	for i := 0; i < len(counts) && i < len(lens); i++ {
		cost += counts[i] * int64(lens[i])
	}
	return cost
}

// alike are n counts of c.
func alike(n int, c int64) []int64 {
	return slices.Repeat([]int64{c}, n)
}

// fibonacci are n counts whose words are as long as can be.
func fibonacci(n int) []int64 {
	counts := alike(n, 1)
	for i := 2; i < n; i++ {
		counts[i] = counts[i-1] + counts[i-2]
	}
	return counts
}

// someCounts are counts of one of several kinds: many alike, some none, some far apart.
func someCounts(r *rand.Rand, n int) []int64 {
	counts := make([]int64, n)
	kind := r.Intn(6)
	for i := range counts {
		switch kind {
		case 0:
			counts[i] = int64(r.Intn(3))
		case 1:
			counts[i] = int64(1 + r.Intn(4))
		case 2:
			counts[i] = int64(r.Intn(1000))
		case 3:
			counts[i] = 1 << r.Intn(41)
		case 4:
			counts[i] = r.Int63n(1<<40 + 1)
		case 5:
			counts[i] = int64(r.Intn(2) * (1 + r.Intn(30)))
		}
	}
	return counts
}

func TestLengthsExamples(t *testing.T) {
	for _, c := range []struct {
		counts []int64
		limit  int
		want   []int
		cost   int64
	}{
		{[]int64{5, 1, 1}, 15, []int{1, 2, 2}, 9},
		{[]int64{1, 1, 1, 1}, 15, []int{2, 2, 2, 2}, 8},
		{[]int64{0, 7}, 15, []int{0, 1}, 7},
		{[]int64{0, 0}, 15, []int{0, 0}, 0},
		{[]int64{8, 4, 2, 1, 1}, 3, []int{1, 3, 3, 3, 3}, 32},
		{[]int64{8, 4, 2, 1, 1}, 15, []int{1, 2, 3, 4, 4}, 30},
		{[]int64{1, 1, 1}, 15, []int{1, 2, 2}, 5},
		{[]int64{2, 2, 1, 1}, 15, []int{2, 2, 2, 2}, 12},
	} {
		lens, e := Lengths(c.counts, c.limit)
		if e != api.OK || !slices.Equal(lens, c.want) {
			t.Errorf("Lengths(%v, %d) = %v, %d, want %v", c.counts, c.limit, lens, e, c.want)
		}
		if cost, e := Cost(c.counts, c.want); e != api.OK || cost != c.cost {
			t.Errorf("Cost(%v, %v) = %d, %d, want %d", c.counts, c.want, cost, e, c.cost)
		}
	}
}

// 4.1

func TestLengthsEdges(t *testing.T) {
	ends := make([]int64, 256)
	ends[0], ends[255] = 3, 3
	of := func(n, l int) []int { return slices.Repeat([]int{l}, n) }
	for name, c := range map[string]struct {
		counts []int64
		limit  int
		want   []int
	}{
		"nil":                              {nil, 15, nil},
		"no counts":                        {[]int64{}, 1, nil},
		"one count of 0":                   {[]int64{0}, 1, []int{0}},
		"256 counts of 0":                  {make([]int64, 256), 1, of(256, 0)},
		"one symbol":                       {[]int64{1}, 15, []int{1}},
		"one symbol, the least limit":      {[]int64{0, 0, 9, 0}, 1, []int{0, 0, 1, 0}},
		"one symbol that comes most often": {[]int64{1 << 40}, 15, []int{1}},
		"the last of 256 symbols":          {append(make([]int64, 255), 1), 15, append(of(255, 0), 1)},
		"two symbols":                      {[]int64{1 << 40, 1}, 15, []int{1, 1}},
		"two symbols, the least limit":     {[]int64{1, 1 << 40}, 1, []int{1, 1}},
		"the first and the last":           {ends, 15, append(append([]int{1}, of(254, 0)...), 1)},
		"256 alike":                        {alike(256, 5), 15, of(256, 8)},
		"256 that come most often":         {alike(256, 1<<40), 15, of(256, 8)},
		"256 alike, the least limit":       {alike(256, 5), 8, of(256, 8)},
		"four of limit 2":                  {[]int64{1, 10, 100, 1000}, 2, of(4, 2)},
		"four of limit 3":                  {[]int64{1, 10, 100, 1000}, 3, []int{3, 3, 2, 1}},
		"five alike: the lowest symbols":   {alike(5, 1), 15, []int{2, 2, 2, 3, 3}},
		"0 does not count among alike":     {[]int64{0, 1, 0, 1, 1, 0}, 15, []int{0, 1, 0, 2, 2, 0}},
		"16 of a chain: just MaxCode":      {fibonacci(16), 15, []int{15, 15, 14, 13, 12, 11, 10, 9, 8, 7, 6, 5, 4, 3, 2, 1}},
	} {
		lens, e := Lengths(c.counts, c.limit)
		if e != api.OK || !slices.Equal(lens, c.want) {
			t.Errorf("%s: %v, %d, want %v", name, lens, e, c.want)
		}
	}
}

func TestLengthsRefused(t *testing.T) {
	with := func(n, at int, c int64) []int64 {
		counts := alike(n, 1)
		counts[at] = c
		return counts
	}
	for name, c := range map[string]struct {
		counts []int64
		limit  int
		want   api.Errno
	}{
		"257 counts":                        {make([]int64, 257), 15, api.ErrLong},
		"257 counts, a wrong limit":         {make([]int64, 257), 0, api.ErrLong},
		"257 counts, a wrong count":         {with(257, 3, -1), 15, api.ErrLong},
		"257 counts, and above 2^limit":     {alike(257, 1), 1, api.ErrLong},
		"many counts":                       {make([]int64, 100000), 15, api.ErrLong},
		"limit 0":                           {[]int64{1, 1}, 0, api.ErrArg},
		"limit 0 of no counts":              {nil, 0, api.ErrArg},
		"limit below 0":                     {[]int64{1, 1}, -1, api.ErrArg},
		"limit above MaxCode":               {[]int64{1, 1}, 16, api.ErrArg},
		"limit 16 of no counts":             {nil, 16, api.ErrArg},
		"limit as wide as a word":           {[]int64{1, 1}, 64, api.ErrArg},
		"the least limit that is":           {[]int64{1}, math.MinInt, api.ErrArg},
		"the greatest limit that is":        {[]int64{1}, math.MaxInt, api.ErrArg},
		"a count below 0":                   {[]int64{-1}, 15, api.ErrArg},
		"the last below 0":                  {with(256, 255, -1), 15, api.ErrArg},
		"the least count that is":           {[]int64{1, math.MinInt64}, 15, api.ErrArg},
		"a count above 2^40":                {[]int64{1<<40 + 1}, 15, api.ErrArg},
		"the first above 2^40":              {with(256, 0, 1<<40+1), 15, api.ErrArg},
		"the greatest count that is":        {[]int64{1, math.MaxInt64}, 15, api.ErrArg},
		"a wrong count, ahead of the limit": {[]int64{1, 1, 1, -1}, 1, api.ErrArg},
		"three of limit 1":                  {[]int64{1, 1, 1}, 1, api.ErrLimit},
		"three of limit 1, with others":     {[]int64{0, 1, 0, 1, 0, 0, 1}, 1, api.ErrLimit},
		"256 of limit 7":                    {alike(256, 1), 7, api.ErrLimit},
	} {
		if lens, e := Lengths(c.counts, c.limit); e != c.want || lens != nil {
			t.Errorf("%s: %v, %d, want %d", name, lens, e, c.want)
		}
	}
}

func TestAsManySymbolsAsALimitHas(t *testing.T) {
	for limit := 1; limit <= 7; limit++ {
		r := rand.New(rand.NewSource(int64(limit)))
		counts := make([]int64, 256)
		for _, s := range r.Perm(256)[:1<<limit] {
			counts[s] = 1 + r.Int63n(1<<40)
		}
		lens, e := Lengths(counts, limit)
		if e != api.OK {
			t.Fatalf("2^%d symbols: %d", limit, e)
		}
		for s, l := range lens {
			if counts[s] > 0 && l != limit || counts[s] == 0 && l != 0 {
				t.Errorf("2^%d symbols: length %d", limit, l)
			}
		}
		counts[slices.Index(counts, 0)] = 1
		if lens, e := Lengths(counts, limit); e != api.ErrLimit || lens != nil {
			t.Errorf("one more than 2^%d symbols: %v, %d", limit, lens, e)
		}
	}
}

func holdsLengths(t *testing.T, counts []int64, limit int) {
	t.Helper()
	want, e1 := plainLengths(counts, limit)
	if lens, e := Lengths(counts, limit); e != e1 || !slices.Equal(lens, want) {
		t.Fatalf("Lengths(%v, %d) = %v, %d, want %v, %d", counts, limit, lens, e, want, e1)
	}
}

func TestLengthsOfAllSmallCounts(t *testing.T) {
	for n := 1; n <= 5; n++ {
		row := make([]int, n)
		for more := true; more; more = step(row, 5) {
			counts := make([]int64, n)
			for i, c := range row {
				counts[i] = int64(c)
			}
			for limit := 1; limit <= 5; limit++ {
				holdsLengths(t, counts, limit)
			}
		}
	}
}

// step goes to the next row of numbers below kinds, and tells whether there is one.
func step(row []int, kinds int) bool {
	for i := range row {
		row[i]++
		if row[i] < kinds {
			return true
		}
		row[i] = 0
	}
	return false
}

func TestLengthsByTheWords(t *testing.T) {
	r := rand.New(rand.NewSource(41))
	for range 1500 {
		n := r.Intn(40)
		if r.Intn(20) == 0 {
			n = 100 + r.Intn(158)
		}
		holdsLengths(t, someCounts(r, n), 1+r.Intn(15))
	}
	for n := 2; n <= 50; n++ {
		counts := fibonacci(n)
		for limit := 1; limit <= 15; limit++ {
			holdsLengths(t, counts, limit)
		}
	}
	holdsLengths(t, alike(256, 1<<40), 15)
	holdsLengths(t, append(alike(255, 1), 1<<40), 15)
}

// 4.2

func TestCost(t *testing.T) {
	for name, c := range map[string]struct {
		counts []int64
		lens   []int
		want   int64
	}{
		"nothing":                  {nil, nil, 0},
		"no lengths":               {[]int64{1, 2}, nil, 0},
		"no counts":                {nil, []int{1, 2}, 0},
		"fewer lengths":            {[]int64{3, 5, 7}, []int{2, 4}, 26},
		"fewer counts":             {[]int64{3, 5}, []int{2, 4, 15}, 26},
		"lengths that are wrong":   {[]int64{1, 2, 3}, []int{1, 1, 1}, 6},
		"a count without a word":   {[]int64{9, 2}, []int{0, 15}, 30},
		"a word without a count":   {[]int64{0, 2}, []int{15, 3}, 6},
		"one that comes most":      {[]int64{1 << 40}, []int{15}, 15 << 40},
		"256 that come most often": {alike(256, 1<<40), slices.Repeat([]int{15}, 256), 15 << 48},
	} {
		if cost, e := Cost(c.counts, c.lens); e != api.OK || cost != c.want {
			t.Errorf("%s: %d, %d, want %d", name, cost, e, c.want)
		}
	}
}

func TestCostRefused(t *testing.T) {
	for name, c := range map[string]struct {
		counts []int64
		lens   []int
		want   api.Errno
	}{
		"257 counts":                      {make([]int64, 257), nil, api.ErrLong},
		"257 lengths":                     {nil, make([]int, 257), api.ErrLong},
		"257 counts, ahead of a length":   {make([]int64, 257), []int{16}, api.ErrLong},
		"257 lengths, ahead of a count":   {[]int64{-1}, make([]int, 257), api.ErrLong},
		"a count below 0":                 {[]int64{-1}, []int{1}, api.ErrArg},
		"a count above 2^40":              {[]int64{1, 1<<40 + 1}, []int{1, 1}, api.ErrArg},
		"a length below 0":                {[]int64{1}, []int{-1}, api.ErrArg},
		"a length above MaxCode":          {[]int64{8}, []int{16}, api.ErrArg},
		"a count that has no length":      {[]int64{1, -1}, []int{1}, api.ErrArg},
		"a great count without a length":  {[]int64{1, 1<<40 + 1}, nil, api.ErrArg},
		"a length that has no count":      {[]int64{1}, []int{1, 16}, api.ErrArg},
		"a length below 0 without one":    {nil, []int{-1}, api.ErrArg},
		"a wrong length of a symbol of 0": {[]int64{0}, []int{16}, api.ErrArg},
		"the ends of what is":             {[]int64{math.MaxInt64}, []int{math.MinInt}, api.ErrArg},
		"the ends of lengths":             {[]int64{1}, []int{math.MaxInt}, api.ErrArg},
	} {
		if cost, e := Cost(c.counts, c.lens); e != c.want || cost != 0 {
			t.Errorf("%s: %d, %d, want %d", name, cost, e, c.want)
		}
	}
}

func TestCostByTheWords(t *testing.T) {
	r := rand.New(rand.NewSource(42))
	for range 500 {
		counts, lens := someCounts(r, r.Intn(257)), make([]int, r.Intn(257))
		for i := range lens {
			lens[i] = r.Intn(16)
		}
		if cost, e := Cost(counts, lens); e != api.OK || cost != plainCost(counts, lens) {
			t.Fatalf("Cost(%v, %v) = %d, %d, want %d", counts, lens, cost, e, plainCost(counts, lens))
		}
	}
}

// What follows

// fits tells whether lengths fit counts and a limit.
func fits(counts []int64, lens []int, limit int) bool {
	for s, l := range lens {
		if l < 0 || l > limit || counts[s] > 0 && l == 0 {
			return false
		}
	}
	return len(lens) == len(counts) && share(lens) <= 1<<15
}

func TestNoLengthsThatFitCostLess(t *testing.T) {
	r := rand.New(rand.NewSource(43))
	for range 120 {
		counts := someCounts(r, 1+r.Intn(5))
		for limit := 1; limit <= 5; limit++ {
			lens, e := Lengths(counts, limit)
			if e != api.OK {
				continue
			}
			if !fits(counts, lens, limit) {
				t.Fatalf("Lengths(%v, %d) = %v: they do not fit", counts, limit, lens)
			}
			cost, row := plainCost(counts, lens), make([]int, len(counts))
			for more := true; more; more = step(row, limit+1) {
				if fits(counts, row, limit) && plainCost(counts, row) < cost {
					t.Fatalf("Lengths(%v, %d) = %v, but %v cost less", counts, limit, lens, row)
				}
			}
		}
	}
}

// weights are a heap of weights.
type weights []int64

func (w weights) Len() int           { return len(w) }
func (w weights) Less(i, j int) bool { return w[i] < w[j] }
func (w weights) Swap(i, j int)      { w[i], w[j] = w[j], w[i] }
func (w *weights) Push(x any)        { *w = append(*w, x.(int64)) }
func (w *weights) Pop() any {
	last := (*w)[len(*w)-1]
	*w = (*w)[:len(*w)-1]
	return last
}

// TestLengthsCostAsMuchAsATree: where no limit is felt, the two lightest ones are put together till one is left; each time all below them have one bit more.
func TestLengthsCostAsMuchAsATree(t *testing.T) {
	r := rand.New(rand.NewSource(44))
	for range 300 {
		counts := make([]int64, 2+r.Intn(255))
		for i := range counts {
			counts[i] = int64(1 + r.Intn(60))
		}
		lens, e := Lengths(counts, 15)
		if e != api.OK || slices.Max(lens) > 14 {
			t.Fatalf("Lengths(%v, 15) = %v, %d", counts, lens, e)
		}
		tree, cost := weights(slices.Clone(counts)), int64(0)
		heap.Init(&tree)
		for len(tree) > 1 {
			sum := heap.Pop(&tree).(int64) + heap.Pop(&tree).(int64)
			cost += sum
			heap.Push(&tree, sum)
		}
		if plainCost(counts, lens) != cost {
			t.Fatalf("Lengths(%v, 15) cost %d, a tree %d", counts, plainCost(counts, lens), cost)
		}
	}
}

func TestAGreaterLimitNeverCostsMore(t *testing.T) {
	r := rand.New(rand.NewSource(45))
	less := 0
	for range 200 {
		counts := someCounts(r, r.Intn(257))
		last := int64(-1)
		for limit := 1; limit <= 15; limit++ {
			lens, e := Lengths(counts, limit)
			if e == api.ErrLimit && last < 0 {
				continue
			}
			if e != api.OK || !fits(counts, lens, limit) {
				t.Fatalf("Lengths(%v, %d) = %v, %d", counts, limit, lens, e)
			}
			cost := plainCost(counts, lens)
			if last >= 0 && cost > last {
				t.Fatalf("Lengths(%v, %d) cost %d, a limit less %d", counts, limit, cost, last)
			}
			if last >= 0 && cost < last {
				less++
			}
			last = cost
		}
	}
	if less < 100 {
		t.Errorf("only %d limits cost less", less)
	}
}

func TestDoubledCountsCostDouble(t *testing.T) {
	r := rand.New(rand.NewSource(46))
	for range 300 {
		counts := someCounts(r, r.Intn(257))
		double := make([]int64, len(counts))
		for i := range counts {
			counts[i] = min(counts[i], 1<<39)
			double[i] = 2 * counts[i]
		}
		limit := 8 + r.Intn(8)
		once, e1 := Lengths(counts, limit)
		twice, e2 := Lengths(double, limit)
		if e1 != api.OK || e2 != api.OK || plainCost(double, twice) != 2*plainCost(counts, once) {
			t.Fatalf("Lengths(%v, %d) = %v, %d, of the doubled ones %v, %d", counts, limit, once, e1, twice, e2)
		}
	}
}

func TestTheSumIsJustOne(t *testing.T) {
	r := rand.New(rand.NewSource(47))
	for range 400 {
		counts := someCounts(r, 2+r.Intn(255))
		counts[0], counts[1] = 1, 1
		limit := 8 + r.Intn(8)
		if lens, e := Lengths(counts, limit); e != api.OK || share(lens) != 1<<15 {
			t.Fatalf("Lengths(%v, %d) = %v, %d: the sum is %d / 2^15", counts, limit, lens, e, share(lens))
		}
	}
}

// 4.6

// roomy tells a list with what was in it, and behind its end some room; and the whole, to be held against itself later.
func roomy[T byte | int | int64](list []T, fill T) (short, whole []T) {
	whole = append(slices.Clone(list), fill, fill, fill, fill, fill)
	return whole[:len(list)], whole
}

func TestListsAreNeitherChangedNorKept(t *testing.T) {
	r := rand.New(rand.NewSource(48))
	for range 100 {
		plain := someCounts(r, r.Intn(257))
		counts, allCounts := roomy(plain, 77)
		lens, e := Lengths(counts, 15)
		want, _ := plainLengths(plain, 15)
		if e != api.OK || !slices.Equal(allCounts, append(slices.Clone(plain), 77, 77, 77, 77, 77)) {
			t.Fatalf("Lengths has changed its counts, or answers %d", e)
		}
		short, allLens := roomy(lens, 7)
		if cost, e := Cost(counts, short); e != api.OK || cost != plainCost(plain, lens) {
			t.Fatalf("Cost = %d, %d", cost, e)
		}
		codes, e := Codes(short)
		if e != api.OK || !slices.Equal(allLens, append(slices.Clone(want), 7, 7, 7, 7, 7)) || !slices.Equal(allCounts[:len(plain)], plain) {
			t.Fatalf("Cost or Codes has changed its lists, or answers %d", e)
		}
		words := plainCodes(want)
		for i := range allCounts {
			allCounts[i] = 1
		}
		for i := range allLens {
			allLens[i] = 9
		}
		if !slices.Equal(lens, want) || !slices.Equal(codes, words) {
			t.Fatal("an answer shows what was written into a list later")
		}
		spoilt, _ := Lengths(plain, 15)
		for i := range spoilt {
			spoilt[i] = -5
		}
		_ = append(spoilt, 9, 9, 9)
		if again, e := Lengths(plain, 15); e != api.OK || !slices.Equal(again, want) {
			t.Fatal("an answer shows what was written into another one")
		}
		for i := range codes {
			codes[i] = api.Code{Len: 99, Bits: 99}
		}
		if again, e := Codes(want); e != api.OK || !slices.Equal(again, words) {
			t.Fatal("an answer of Codes shows what was written into another one")
		}
	}
}
