package jobs

import (
	"fmt"
	"math"
	"math/rand"
	"slices"
	"strconv"
	"strings"
	"testing"

	"winnow/api"
	"winnow/lines"
	"winnow/parts"
)

// 15.5

func split(offset int64, text string) api.Split {
	return api.Split{Offset: offset, Text: text}
}

// means holds Mean against the texts that are wanted.
func means(t *testing.T, j api.Job, splits []api.Split, dropped int64, want ...string) {
	t.Helper()
	texts, count := mean(t, j, splits)
	if !slices.Equal(texts, want) || count != dropped {
		t.Fatalf("Mean of %s, %s: %s, %d, and not %s, %d", written(j), written(splits), written(texts), count, written(want), dropped)
	}
}

func TestMeanExample(t *testing.T) {
	means(t, api.Job{Kind: api.JobCount, Parts: 1}, []api.Split{split(0, "b a"), split(3, "a")}, 0, "a\t2\nb\t1\n")
}

func TestMeanOfEachKind(t *testing.T) {
	splits := []api.Split{split(0, "b a\na\t5\n"), split(8, "a\t-2\n\nb"), split(14, letters(1025)+"\nb a\n")}
	for _, c := range []struct {
		kind    int
		dropped int64
		want    string
	}{
		{api.JobCount, 1, "2\t1\n5\t1\na\t4\nb\t3\n"},
		{api.JobIndex, 1, "2\t8\n5\t4\na\t0\na\t4\na\t8\na\t1040\nb\t0\nb\t14\nb\t1040\n"},
		{api.JobSum, 5, "a\t3\n"},
		{api.JobSort, 1, "\t\na\t5\na\t-2\nb\t\nb a\t\nb a\t\n"},
		{api.JobDistinct, 1, "\t\na\t-2\t\na\t5\t\nb\t\nb a\t\n"},
	} {
		means(t, api.Job{Kind: c.kind, Parts: 1}, splits, c.dropped, c.want)
	}
}

func TestMeanOfAnySplits(t *testing.T) {
	random := rand.New(rand.NewSource(155))
	for range 3000 {
		j, splits := randomJob(random), randomSplits(random)
		want, dropped := plainMean(j, splits)
		means(t, j, splits, dropped, want...)
	}
}

// Each odd line among others, and many of them at once.
func TestMeanOfOddLines(t *testing.T) {
	var all []api.Split
	for i, line := range oddLines() {
		if len(line) > 60000 {
			continue
		}
		for _, kind := range five() {
			j := api.Job{Kind: kind, Parts: 1 + i%3}
			splits := []api.Split{split(int64(i), "a\t1\n"+line+"\nb"), split(0, line)}
			want, dropped := plainMean(j, splits)
			means(t, j, splits, dropped, want...)
		}
		if i%30 == 0 {
			all = append(all, split(int64(i), line+"\n"+line))
		}
	}
	for _, kind := range five() {
		j := api.Job{Kind: kind, Parts: 7}
		want, dropped := plainMean(j, all)
		means(t, j, all, dropped, want...)
	}
}

// Alike keys stand in the order of the splits, and of the lines within them.
func TestMeanIsStable(t *testing.T) {
	j := api.Job{Kind: api.JobSort, Parts: 1}
	means(t, j, []api.Split{split(0, "k\t2\na\t1\nk\t1\n"), split(0, "k\t0")}, 0, "a\t1\nk\t2\nk\t1\nk\t0\n")
	var splits []api.Split
	want := make([]string, 3)
	for i := range 200 {
		text := ""
		for n := range 30 {
			key := string("abc"[(i+n)%3])
			line := key + "\t" + fmt.Sprint(997*(i*30+n)%1009)
			text += line + "\n"
			want[(i+n)%3] += line + "\n"
		}
		splits = append(splits, split(0, text))
	}
	means(t, j, splits, 0, strings.Join(want, ""))
}

func TestMeanOfNothing(t *testing.T) {
	for _, kind := range five() {
		for _, n := range []int{1, 2, 7, 65535} {
			j := api.Job{Kind: kind, Parts: n}
			means(t, j, nil, 0, make([]string, n)...)
			means(t, j, []api.Split{}, 0, make([]string, n)...)
			means(t, j, make([]api.Split, 256), 0, make([]string, n)...)
		}
		j := api.Job{Kind: kind, Parts: 3, Bounds: words("a b")}
		means(t, j, []api.Split{split(9, "")}, 0, "", "", "")
	}
}

func TestMeanOfManyParts(t *testing.T) {
	splits := []api.Split{split(0, "a b c\nd e f")}
	for _, n := range []int{1, 2, 3, 5, 6, 7, 100, 65534, 65535} {
		j := api.Job{Kind: api.JobCount, Parts: n}
		want := make([]string, n)
		for _, key := range words("a b c d e f") {
			want[parts.Of(j, key)] += key + "\t1\n"
		}
		means(t, j, splits, 0, want...)
	}
}

func TestMeanByBounds(t *testing.T) {
	splits := []api.Split{split(0, "d a c b bb"), split(0, "a z")}
	for _, c := range []struct {
		bounds []string
		want   []string
	}{
		{words("c"), []string{"a\t2\nb\t1\nbb\t1\n", "c\t1\nd\t1\nz\t1\n"}},
		{words("b c"), []string{"a\t2\n", "b\t1\nbb\t1\n", "c\t1\nd\t1\nz\t1\n"}},
		{words("b b"), []string{"a\t2\n", "", "b\t1\nbb\t1\nc\t1\nd\t1\nz\t1\n"}},
		{words("a a0 b ba c d e zz"), []string{"", "a\t2\n", "", "b\t1\n", "bb\t1\n", "c\t1\n", "d\t1\n", "z\t1\n", ""}},
		{[]string{""}, []string{"", "a\t2\nb\t1\nbb\t1\nc\t1\nd\t1\nz\t1\n"}},
		{[]string{"\xff"}, []string{"a\t2\nb\t1\nbb\t1\nc\t1\nd\t1\nz\t1\n", ""}},
		{[]string{letters(1024), "~"}, []string{"a\t2\n", "b\t1\nbb\t1\nc\t1\nd\t1\nz\t1\n", ""}},
	} {
		means(t, api.Job{Kind: api.JobCount, Parts: len(c.bounds) + 1, Bounds: c.bounds}, splits, 0, c.want...)
	}
}

// As many bounds as may be, with keys below, on and above each of some of them.
func TestMeanByTheMostBounds(t *testing.T) {
	j := api.Job{Kind: api.JobDistinct, Parts: 65535}
	for i := range 65534 {
		j.Bounds = append(j.Bounds, fmt.Sprintf("%05x", i/2))
	}
	var text strings.Builder
	want := make([]string, 65535)
	for i := 0; i < 32767; i += 7 {
		bound := fmt.Sprintf("%05x", i)
		text.WriteString(bound + "a\n" + bound + "\n")
		want[2*i+2] += bound + "\t\n" + bound + "a\t\n"
	}
	means(t, j, []api.Split{split(0, text.String())}, 0, want...)
	isNumber(t, "by parts.Of", parts.Of(j, "00007a"), 16)
}

// The part of each key is the one that parts.Of tells.
func TestMeanPartsAreThoseOfParts(t *testing.T) {
	random := rand.New(rand.NewSource(1551))
	for range 500 {
		j, splits := randomJob(random), randomSplits(random)
		j.Kind = api.JobDistinct
		texts, _ := mean(t, j, splits)
		for part, text := range texts {
			for _, line := range lines.Lines(text) {
				isNumber(t, "the part of "+line, part, parts.Of(j, strings.TrimSuffix(line, "\t")))
			}
		}
	}
}

// Places are those of lines.All, and wrap round.
func TestMeanPlaces(t *testing.T) {
	j := api.Job{Kind: api.JobIndex, Parts: 1}
	means(t, j, []api.Split{split(math.MaxInt64-2, "a\na\na\n")}, 0, "a\t-9223372036854775807\na\t9223372036854775805\na\t9223372036854775807\n")
	means(t, j, []api.Split{split(math.MinInt64, "a"), split(-1, "a"), split(9, "a"), split(10, "a"), split(9, "a a")}, 0, "a\t-9223372036854775808\na\t-1\na\t9\na\t10\n")
	means(t, j, []api.Split{split(5, "\n\nb\n")}, 0, "b\t7\n")
}

// Sums wrap round over splits, too.
func TestMeanSumsWrap(t *testing.T) {
	j := api.Job{Kind: api.JobSum, Parts: 1}
	means(t, j, []api.Split{split(0, "k\t9223372036854775807\n"), split(0, "k\t1\n\t3")}, 0, "\t3\nk\t-9223372036854775808\n")
	means(t, j, []api.Split{split(0, "k\t9223372036854775808\nk\t-0\nk\nk\t1\t1")}, 4, "")
	means(t, j, []api.Split{split(0, "k\t5\nk\t-5")}, 0, "k\t0\n")
}

// Combine, Budget, Fan, Tries and Shape are of no account, such as may not be included.
func TestMeanOfOtherFields(t *testing.T) {
	random := rand.New(rand.NewSource(1552))
	for range 500 {
		j, splits := randomJob(random), randomSplits(random)
		texts, dropped := mean(t, j, splits)
		j.Combine = random.Intn(2) == 0
		j.Budget, j.Fan, j.Tries = random.Int()-random.Int(), random.Int()-random.Int(), random.Int()-random.Int()
		j.Shape = api.Shape{Block: random.Int() - random.Int(), Restart: random.Int() - random.Int(), Bits: random.Int() - random.Int()}
		means(t, j, splits, dropped, texts...)
	}
	j := api.Job{Kind: api.JobCount, Parts: 1, Combine: true, Budget: math.MinInt, Fan: -1, Tries: math.MaxInt}
	means(t, j, []api.Split{split(0, "a a")}, 0, "a\t2\n")
}

// isRefused holds Mean against an error, beside which there is nothing.
func isRefused(t *testing.T, what string, j api.Job, splits []api.Split, want api.Errno) {
	t.Helper()
	texts, dropped, err := Mean(j, splits)
	isError(t, what, err, want)
	isNumber(t, "texts beside an error", len(texts), 0)
	isNumber(t, "dropped beside an error", dropped, 0)
}

// full tells splits of MaxSplit bytes.
func full(count int) []api.Split {
	splits := make([]api.Split, count)
	for i := range splits {
		splits[i].Text = strings.Repeat("-", 65536)
	}
	return splits
}

func TestMeanOfTheGreatest(t *testing.T) {
	j := api.Job{Kind: api.JobCount, Parts: 2, Bounds: words("a")}
	means(t, j, make([]api.Split, 256), 0, "", "")
	isRefused(t, "257 splits", j, make([]api.Split, 257), api.ErrLong)
	isRefused(t, "1000 splits", j, make([]api.Split, 1000), api.ErrLong)
	means(t, j, full(1), 0, "", "")
	for at := range 3 {
		splits := full(3)
		splits[at].Text += "a"
		isRefused(t, "a split of a byte more", j, splits, api.ErrLong)
	}
	isRefused(t, "a long split", j, []api.Split{split(0, strings.Repeat("a\n", 1<<20))}, api.ErrLong)
	means(t, j, full(64), 0, "", "")
	isRefused(t, "a byte more in all", j, append(full(64), split(0, "a")), api.ErrLong)
	isRefused(t, "a byte more in all", j, append([]api.Split{split(0, "a")}, full(64)...), api.ErrLong)
	isRefused(t, "twice the bytes", j, full(128), api.ErrLong)
	isRefused(t, "as many as may be, each as long as may be", j, full(256), api.ErrLong)
	// As many splits as may be, with as many bytes as may be: 256 of 2^14.
	splits := make([]api.Split, 256)
	for i := range splits {
		splits[i].Text = strings.Repeat("a ", 1<<13)
	}
	means(t, j, splits, 0, "", "a\t2097152\n")
	splits[200].Text += "b"
	isRefused(t, "a byte more", j, splits, api.ErrLong)
}

// As many pairs as may be, of each kind.
func TestMeanOfManyPairs(t *testing.T) {
	splits := full(64)
	for i := range splits {
		splits[i].Text = strings.Repeat("\n", 65536)
	}
	means(t, api.Job{Kind: api.JobSum, Parts: 1}, splits, 1<<22, "")
	means(t, api.Job{Kind: api.JobDistinct, Parts: 1}, splits, 0, "\t\n")
	means(t, api.Job{Kind: api.JobSort, Parts: 1}, splits, 0, strings.Repeat("\t\n", 1<<22))
	for i := range splits {
		splits[i] = split(int64(i)<<16, strings.Repeat("a ", 32767)+"a\n")
	}
	places := ""
	for i := range splits {
		places += "a\t" + strconv.Itoa(i<<16) + "\n"
	}
	means(t, api.Job{Kind: api.JobIndex, Parts: 1}, splits, 0, places)
}

func TestMeanErrors(t *testing.T) {
	good := []api.Split{split(0, "a b\nk\t1")}
	for _, kind := range kinds() {
		if kind >= 0 && kind <= 4 {
			continue
		}
		isRefused(t, "no such kind", api.Job{Kind: kind, Parts: 1}, good, api.ErrJob)
		isRefused(t, "no such kind, nothing to do", api.Job{Kind: kind, Parts: 1}, nil, api.ErrJob)
	}
	long := letters(1025)
	for _, kind := range five() {
		for _, n := range []int{math.MinInt, -1, 0, 65536, 1 << 32, 1<<32 + 1, math.MaxInt} {
			isRefused(t, "no such number of parts", api.Job{Kind: kind, Parts: n}, good, api.ErrArg)
			isRefused(t, "with bounds", api.Job{Kind: kind, Parts: n, Bounds: words("b a")}, nil, api.ErrArg)
		}
		for _, bounds := range [][]string{words("a"), words("a b c"), words("b a"), {"a", long}, {long, long}, {long, "a"}} {
			isRefused(t, "no such bounds", api.Job{Kind: kind, Parts: 3, Bounds: bounds}, good, api.ErrBounds)
			isRefused(t, "no such bounds, nothing to do", api.Job{Kind: kind, Parts: 3, Bounds: bounds}, nil, api.ErrBounds)
		}
		isRefused(t, "bounds of one part", api.Job{Kind: kind, Parts: 1, Bounds: words("a")}, good, api.ErrBounds)
	}
	isRefused(t, "a job of zeros", api.Job{}, good, api.ErrArg)
}

// ErrLong, whatever else is wrong; then ErrJob; then what parts.Check says.
func TestMeanOrderOfErrors(t *testing.T) {
	tooMany, tooLong, tooMuch := make([]api.Split, 257), []api.Split{split(0, strings.Repeat("a", 65537))}, append(full(64), split(0, "a"))
	for _, kind := range kinds() {
		for _, n := range []int{-1, 0, 1, 3, 65536} {
			for _, bounds := range [][]string{nil, words("a b"), words("b a"), {letters(1025)}} {
				j := api.Job{Kind: kind, Parts: n, Bounds: bounds}
				isRefused(t, "too many splits", j, tooMany, api.ErrLong)
				isRefused(t, "too long a split", j, tooLong, api.ErrLong)
				isRefused(t, "too many bytes", j, tooMuch, api.ErrLong)
				if kind < 0 || kind > 4 {
					isRefused(t, "no such kind", j, nil, api.ErrJob)
					continue
				}
				_, _, err := Mean(j, nil)
				isError(t, "the error of parts.Check", err, parts.Check(j))
			}
		}
	}
}

// 15.8

// randomWhole tells a text of some lines.
func randomWhole(random *rand.Rand) string {
	text := ""
	for range random.Intn(12) {
		text += randomLine(random) + "\n"
	}
	if random.Intn(2) == 0 {
		text += randomLine(random)
	}
	return text
}

func TestCutsChangeNothing(t *testing.T) {
	random := rand.New(rand.NewSource(158))
	for range 1000 {
		j, text := randomJob(random), randomWhole(random)
		want, dropped := plainMean(j, []api.Split{split(0, text)})
		for range 4 {
			places := make([]int, random.Intn(10))
			for i := range places {
				places[i] = random.Intn(2*len(text)+1) - len(text)/2
			}
			splits, err := lines.Splits(text, places)
			isError(t, "Splits", err, api.OK)
			means(t, j, splits, dropped, want...)
		}
	}
}

// Each cut, and each two cuts, of a short text.
func TestEachCutOfAText(t *testing.T) {
	const text = "b a\nk\t5\n\na b\tx\nk\t-7"
	for _, kind := range five() {
		for _, j := range []api.Job{{Kind: kind, Parts: 1}, {Kind: kind, Parts: 3}, {Kind: kind, Parts: 3, Bounds: words("b k")}} {
			want, dropped := plainMean(j, []api.Split{split(0, text)})
			for a := range len(text) + 1 {
				for b := range len(text) + 1 {
					splits, err := lines.Splits(text, []int{a, b})
					isError(t, "Splits", err, api.OK)
					means(t, j, splits, dropped, want...)
				}
			}
		}
	}
}

// With splits in between that have no bytes nothing is changed either.
func TestMostCuts(t *testing.T) {
	text := strings.Repeat("a b\nk\t5\n", 100)
	places := make([]int, 255)
	for i := range places {
		places[i] = i * 7
	}
	splits, err := lines.Splits(text, places)
	isError(t, "Splits", err, api.OK)
	for _, kind := range five() {
		j := api.Job{Kind: kind, Parts: 2}
		want, dropped := plainMean(j, []api.Split{split(0, text)})
		means(t, j, splits, dropped, want...)
	}
}

// 15.9

func TestKeysOfTheOutput(t *testing.T) {
	random := rand.New(rand.NewSource(159))
	for range 2000 {
		j, splits := randomJob(random), randomSplits(random)
		pairs, _ := plainPairs(j.Kind, splits)
		texts, _ := mean(t, j, splits)
		all := lines.Lines(strings.Join(texts, ""))
		switch j.Kind {
		case api.JobSort:
			isNumber(t, "lines of a sort", len(all), len(pairs))
		case api.JobDistinct:
			var keys []string
			for _, line := range all {
				keys = append(keys, strings.TrimSuffix(line, "\t"))
			}
			slices.Sort(keys)
			isSame(t, "lines, each once", keys, plainKeys(pairs))
		default:
			given := plainKeys(pairs)
			for _, line := range all {
				key, _, _ := strings.Cut(line, "\t")
				if !slices.Contains(given, key) {
					t.Fatalf("a key that no line gave: %q", key)
				}
			}
			if j.Kind != api.JobIndex {
				isNumber(t, "a line for each key", len(all), len(given))
			}
		}
	}
}

// P9: by bounds the parts, one behind the other, have keys that do not fall; by hash all of a key is in one part.
func TestOrderOfParts(t *testing.T) {
	random := rand.New(rand.NewSource(1591))
	for range 1000 {
		j, splits := randomJob(random), randomSplits(random)
		texts, _ := mean(t, j, splits)
		before := ""
		home := map[string]int{}
		for part, text := range texts {
			for _, line := range lines.Lines(text) {
				key := line[:strings.LastIndexByte(line, '\t')]
				if j.Kind == api.JobSort {
					key, _, _ = strings.Cut(line, "\t")
				}
				if len(j.Bounds) > 0 && plainBelow(key, before) {
					t.Fatalf("%q stands behind %q", key, before)
				}
				if at, some := home[key]; some && at != part {
					t.Fatalf("%q is in the parts %d and %d", key, at, part)
				}
				home[key], before = part, key
			}
		}
	}
}

// P7: whichever neighbouring values of a key are combined ahead, the meaning is the same.
func TestMeanOfCombined(t *testing.T) {
	random := rand.New(rand.NewSource(1571))
	for range 1000 {
		j, splits := randomJob(random), randomSplits(random)
		j.Parts, j.Bounds = 1, nil
		pairs, dropped := plainPairs(j.Kind, splits)
		want := ""
		for _, key := range plainKeys(pairs) {
			var list []string
			for _, pair := range pairs {
				if pair.Key == key {
					list = append(list, pair.Value)
				}
			}
			for _, value := range Reduce(j.Kind, cutAnew(random, j.Kind, list)) {
				want += Line(key, value)
			}
		}
		means(t, j, splits, dropped, want)
	}
}
