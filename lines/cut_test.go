package lines

import (
	"math"
	"math/rand"
	"strings"
	"testing"

	"winnow/api"
)

// 13.1

// pieces tells pieces by the places where they end.
func pieces(ends ...int) []api.Piece {
	var list []api.Piece
	from := 0
	for _, to := range ends {
		list = append(list, api.Piece{From: from, To: to})
		from = to
	}
	return list
}

func TestCutExamples(t *testing.T) {
	for _, c := range []struct {
		n            int
		places, ends []int
	}{
		{10, []int{7, 3, 12, -1}, []int{1, 3, 7, 10, 10}},
		{0, []int{5}, []int{0, 0}},
		{0, nil, []int{0}},
		{0, []int{}, []int{0}},
		{10, nil, []int{10}},
		{10, []int{0}, []int{0, 10}},
		{10, []int{10}, []int{10, 10}},
		{10, []int{11}, []int{0, 10}},
		{10, []int{-11, -12, 22, 21}, []int{0, 0, 10, 10, 10}},
		{10, []int{4, 4, 4}, []int{4, 4, 4, 10}},
		{10, []int{9, 8, 7}, []int{7, 8, 9, 10}},
		{1, []int{-1, 0, 1, 2}, []int{0, 0, 1, 1, 1}},
		{7, []int{math.MinInt, math.MaxInt}, []int{0, 7, 7}},
		{9, []int{math.MinInt, math.MaxInt}, []int{2, 7, 9}},
		{0, []int{math.MinInt, math.MaxInt, 1}, []int{0, 0, 0, 0}},
	} {
		isSame(t, "Cut", cuts(t, c.n, c.places...), pieces(c.ends...))
	}
}

func TestCut(t *testing.T) {
	random := rand.New(rand.NewSource(131))
	for range 5000 {
		n := random.Intn(40)
		if random.Intn(4) == 0 {
			n = random.Intn(api.MaxText + 1)
		}
		places := randomPlaces(random, n, 20)
		isSame(t, "Cut", cuts(t, n, places...), plainCut(n, places))
	}
}

// A place alone: each one near the ends of short texts, and the least and the greatest numbers.
func TestCutAtOnePlace(t *testing.T) {
	for _, n := range []int{0, 1, 2, 3, 7, 8, 9, 63, 64, 1000, api.MaxText - 1, api.MaxText} {
		var places []int
		for d := -3; d <= 3; d++ {
			places = append(places, d, n+d, -n+d, 2*n+d, -2*n+d, 1<<32+d, -1<<32+d)
		}
		for d := range 12 {
			places = append(places, math.MinInt+d, math.MaxInt-d)
		}
		for _, place := range places {
			isSame(t, "Cut", cuts(t, n, place), plainCut(n, []int{place}))
		}
	}
}

// One piece more than there are places, each of which begins where the one ahead ended.
func TestCutPieces(t *testing.T) {
	random := rand.New(rand.NewSource(1311))
	for _, n := range []int{0, 1, 100, api.MaxText} {
		for count := range api.MaxTasks {
			places := make([]int, count)
			for i := range places {
				places[i] = int(random.Uint64())
			}
			list := cuts(t, n, places...)
			if len(list) != count+1 {
				t.Fatalf("%d pieces at %d places", len(list), count)
			}
			from := 0
			for _, p := range list {
				if p.From != from || p.To < p.From || p.To > n {
					t.Fatalf("pieces %v of %d bytes", list, n)
				}
				from = p.To
			}
			if from != n {
				t.Fatalf("pieces %v of %d bytes", list, n)
			}
		}
	}
}

func TestCutErrors(t *testing.T) {
	for _, c := range []struct {
		n, places int
		want      api.Errno
	}{
		{-1, 0, api.ErrArg},
		{-2, 1, api.ErrArg},
		{-1, 255, api.ErrArg},
		{math.MinInt, 0, api.ErrArg},
		{math.MinInt, 255, api.ErrArg},
		{-1, 256, api.ErrLong},
		{math.MinInt, 256, api.ErrLong},
		{0, 255, api.OK},
		{0, 256, api.ErrLong},
		{10, 255, api.OK},
		{10, 256, api.ErrLong},
		{10, 257, api.ErrLong},
		{10, 100000, api.ErrLong},
		{1 << 22, 0, api.OK},
		{1 << 22, 255, api.OK},
		{1 << 22, 256, api.ErrLong},
		{1<<22 + 1, 0, api.ErrLong},
		{1<<22 + 1, 255, api.ErrLong},
		{1<<22 + 1, 256, api.ErrLong},
		{math.MaxInt, 0, api.ErrLong},
		{math.MaxInt, 3, api.ErrLong},
	} {
		list, err := Cut(c.n, make([]int, c.places))
		isError(t, "Cut", err, c.want)
		if err != api.OK {
			isSame(t, "beside an error", list, nil)
		} else if len(list) != c.places+1 {
			t.Errorf("%d pieces at %d places", len(list), c.places)
		}
	}
}

// 13.4

func TestSplitsExamples(t *testing.T) {
	for _, c := range []struct {
		text   string
		places []int
		want   []api.Split
	}{
		{"ab\ncd\n", []int{4}, []api.Split{{Offset: 0, Text: "ab\ncd\n"}, {Offset: 4, Text: ""}}},
		{"ab\ncd\n", []int{3}, []api.Split{{Offset: 0, Text: "ab\n"}, {Offset: 3, Text: "cd\n"}}},
		{"ab\ncd\n", []int{2}, []api.Split{{Offset: 0, Text: "ab\n"}, {Offset: 3, Text: "cd\n"}}},
		{"ab\ncd\n", []int{1}, []api.Split{{Offset: 0, Text: "ab\n"}, {Offset: 3, Text: "cd\n"}}},
		{"ab\ncd\n", []int{0}, []api.Split{{Offset: 0, Text: ""}, {Offset: 0, Text: "ab\ncd\n"}}},
		{"ab\ncd\n", []int{6}, []api.Split{{Offset: 0, Text: "ab\ncd\n"}, {Offset: 6, Text: ""}}},
		{"ab\ncd\n", []int{-2}, []api.Split{{Offset: 0, Text: "ab\ncd\n"}, {Offset: 5, Text: ""}}},
		{"ab\ncd\n", []int{3, 3}, []api.Split{{Offset: 0, Text: "ab\n"}, {Offset: 3, Text: ""}, {Offset: 3, Text: "cd\n"}}},
		{"ab\ncd\n", []int{2, 1}, []api.Split{{Offset: 0, Text: "ab\n"}, {Offset: 1, Text: ""}, {Offset: 3, Text: "cd\n"}}},
		{"ab\ncd\n", []int{1, 1}, []api.Split{{Offset: 0, Text: "ab\n"}, {Offset: 1, Text: ""}, {Offset: 3, Text: "cd\n"}}},
		{"ab\ncd", []int{4}, []api.Split{{Offset: 0, Text: "ab\ncd"}, {Offset: 4, Text: ""}}},
		{"ab\ncd", []int{3}, []api.Split{{Offset: 0, Text: "ab\n"}, {Offset: 3, Text: "cd"}}},
		{"ab\ncd", nil, []api.Split{{Offset: 0, Text: "ab\ncd"}}},
		{"", nil, []api.Split{{}}},
		{"", []int{5, -7}, []api.Split{{}, {}, {}}},
		{"\n", []int{0, 1}, []api.Split{{Offset: 0, Text: ""}, {Offset: 0, Text: "\n"}, {Offset: 1, Text: ""}}},
		{"\n\n\n", []int{1, 2}, []api.Split{{Offset: 0, Text: "\n"}, {Offset: 1, Text: "\n"}, {Offset: 2, Text: "\n"}}},
		{"a\r\nb\r\n", []int{2}, []api.Split{{Offset: 0, Text: "a\r\n"}, {Offset: 3, Text: "b\r\n"}}},
		{"\xe2\x80\xa8\n\xe2\x80", []int{1, 5}, []api.Split{{Offset: 0, Text: "\xe2\x80\xa8\n"}, {Offset: 4, Text: "\xe2\x80"}, {Offset: 5, Text: ""}}},
	} {
		isSame(t, "Splits of "+c.text, splits(t, c.text, c.places...), c.want)
	}
}

// Short texts at each two places, in both orders.
func TestSplits(t *testing.T) {
	for _, text := range append(short(5), odd()...) {
		for a := range len(text) + 1 {
			for b := range len(text) + 1 {
				want, _ := plainSplits(text, []int{a, b})
				isSame(t, "Splits of "+text, splits(t, text, a, b), want)
			}
		}
	}
	random := rand.New(rand.NewSource(134))
	for range 2000 {
		text := randomText(random, 100)
		places := randomPlaces(random, len(text), 12)
		want, _ := plainSplits(text, places)
		isSame(t, "Splits of "+text, splits(t, text, places...), want)
	}
}

// Lines of about MaxSplit bytes, so that some splits are too long.
func TestSplitsAboutTheBound(t *testing.T) {
	random := rand.New(rand.NewSource(1341))
	refused := 0
	for range 60 {
		var text strings.Builder
		for range 1 + random.Intn(4) {
			text.WriteString(strings.Repeat("y", api.MaxSplit/(1+random.Intn(3))-3+random.Intn(5)) + "\n")
		}
		places := randomPlaces(random, text.Len(), 12)
		want, right := plainSplits(text.String(), places)
		got, err := Splits(text.String(), places)
		isSame(t, "Splits", got, want)
		if right {
			isError(t, "Splits", err, api.OK)
		} else {
			isError(t, "Splits", err, api.ErrLong)
			refused++
		}
	}
	if refused == 0 || refused == 60 {
		t.Errorf("of 60 %d were refused", refused)
	}
}

// A split of MaxSplit bytes is taken, one of a byte more is not: at the beginning, between others and at the end.
func TestSplitsOfMaxSplit(t *testing.T) {
	const most = api.MaxSplit
	full := strings.Repeat("x", most)
	ends := strings.Repeat("x", most-1) + "\n"
	many := rows(most/2, 2)
	for _, c := range []struct {
		text   string
		places []int
		long   bool
	}{
		{full, nil, false},
		{full, []int{0, 1, 100, most}, false},
		{full + "x", nil, true},
		{full + "x", []int{1, most}, true},
		{full + "\n", []int{100}, true},
		{ends, nil, false},
		{ends + "\n", nil, true},
		{ends + "\n", []int{most - 1}, false},
		{ends + "\n", []int{most}, false},
		{ends + full, []int{most}, false},
		{ends + full + "x", []int{most}, true},
		{full + "\n" + ends, []int{most, most + 1}, true},
		{"a\n" + ends + "b", []int{2, most + 2}, false},
		{"a\n" + ends + "b", []int{1, most + 1}, false},
		{"a\n" + ends + "b", []int{2}, true},
		{"a\n" + ends + "b", []int{most + 2}, true},
		{"a\n" + full + "\nb", []int{2, 3, most + 3}, true},
		{many, nil, false},
		{many + "\n", nil, true},
		{many + "r", nil, true},
		{many + many, []int{most}, false},
		{many + many, []int{most - 1}, false},
		{many + many, []int{most - 2}, true},
		{many + many, []int{most + 1}, true},
		{many + many, []int{most - 2, most + 2}, false},
	} {
		got, err := Splits(c.text, c.places)
		if c.long {
			isError(t, "Splits, too long", err, api.ErrLong)
			isSame(t, "beside an error", got, nil)
			continue
		}
		isError(t, "Splits", err, api.OK)
		joined := ""
		for _, s := range got {
			joined += s.Text
		}
		if joined != c.text {
			t.Errorf("the texts of the splits at %d are another text", c.places)
		}
	}
}

// Cut's errors: of a text above MaxText, though no split is above MaxSplit, and of too many places.
func TestSplitsErrors(t *testing.T) {
	even := make([]int, 255)
	for i := range even {
		even[i] = (i + 1) * api.MaxText / 256
	}
	text := rows(api.MaxText/64, 64)
	got := splits(t, text, even...)
	want := make([]api.Split, 256)
	for i := range want {
		want[i] = api.Split{Offset: int64(i) * 16384, Text: text[:16384]}
	}
	isSame(t, "Splits of MaxText bytes", got, want)
	for _, c := range []struct {
		text   string
		places []int
	}{
		{text + "\n", even},
		{text + "a", even},
		{text + "a", nil},
		{text + "a", make([]int, 256)},
		{text, make([]int, 256)},
		{"", make([]int, 256)},
		{"a\n", make([]int, 256)},
		{"a\n", make([]int, 1000)},
	} {
		list, err := Splits(c.text, c.places)
		isError(t, "Splits", err, api.ErrLong)
		isSame(t, "beside an error", list, nil)
	}
	if list := splits(t, "a\n", make([]int, 255)...); len(list) != 256 || list[255].Text != "a\n" {
		t.Errorf("%d splits at 255 places", len(list))
	}
	if _, err := Splits(strings.Repeat("x", api.MaxText), even); err != api.ErrLong {
		t.Errorf("one long line: error %d", err)
	}
}

// What follows

// onceEach holds a text's lines against those of its pieces and of its splits.
func onceEach(t *testing.T, text string, places []int) {
	t.Helper()
	var byPieces []string
	for _, p := range cuts(t, len(text), places...) {
		byPieces = append(byPieces, of(t, text, p.From, p.To)...)
	}
	isSame(t, "by pieces, of "+text, byPieces, Lines(text))
	var bySplits []placed
	joined := ""
	for _, s := range splits(t, text, places...) {
		bySplits = append(bySplits, through(All(s))...)
		joined += s.Text
	}
	isSame(t, "by splits, of "+text, bySplits, plainPlaced(text))
	if joined != text {
		t.Fatalf("the texts of all splits are %.200q, and not %.200q", joined, text)
	}
}

func TestEachLineOnce(t *testing.T) {
	for _, text := range append(short(4), odd()...) {
		onceEach(t, text, nil)
		for a := range len(text) + 1 {
			for b := range len(text) + 1 {
				onceEach(t, text, []int{a, b})
			}
		}
		everywhere := make([]int, 3*len(text)+3)
		for i := range everywhere {
			everywhere[i] = i - len(text)
		}
		onceEach(t, text, everywhere)
	}
	random := rand.New(rand.NewSource(1342))
	for range 1000 {
		text := randomText(random, 300)
		onceEach(t, text, randomPlaces(random, len(text), 40))
	}
	long := rows(api.MaxText/1024, 1024)
	everywhere := make([]int, 255)
	for i := range everywhere {
		everywhere[i] = (i*7919+1)%256*16384 - i%3 - api.MaxText*(i%2)
	}
	onceEach(t, long, everywhere)
}
