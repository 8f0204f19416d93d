package jobs

import (
	"math"
	"math/rand"
	"slices"
	"strconv"
	"strings"
	"testing"

	"winnow/api"
)

// 15.3

func words(text string) []string {
	return strings.Fields(text)
}

func TestValuesExamples(t *testing.T) {
	isSame(t, "Combine count", Combine(api.JobCount, words("1 1 3")), words("5"))
	isSame(t, "Combine index", Combine(api.JobIndex, words("9 1")), words("9 1"))
	isSame(t, "Reduce index", Reduce(api.JobIndex, words("9 10 9 x")), words("9 10"))
	isSame(t, "Reduce sum", Reduce(api.JobSum, words("9223372036854775807 1")), words("-9223372036854775808"))
	isSame(t, "Reduce distinct", Reduce(api.JobDistinct, []string{"", ""}), []string{""})
}

// values holds both calls against what is wanted.
func values(t *testing.T, kind int, list, combined, reduced []string) {
	t.Helper()
	isSame(t, "Combine of "+strconv.Itoa(kind)+written(list), Combine(kind, list), combined)
	isSame(t, "Reduce of "+strconv.Itoa(kind)+written(list), Reduce(kind, list), reduced)
}

func TestValuesByTheTable(t *testing.T) {
	list := words("3 -1 x 3 007 10 9")
	values(t, api.JobCount, list, words("24"), words("24"))
	values(t, api.JobIndex, list, list, words("-1 3 9 10"))
	values(t, api.JobSum, list, words("24"), words("24"))
	values(t, api.JobSort, list, list, list)
	values(t, api.JobDistinct, list, words("3"), words("3"))
	for _, kind := range five() {
		for _, value := range append(numberTexts(), otherTexts()...) {
			one := []string{value}
			values(t, kind, one, plainCombine(kind, one), plainReduce(kind, one))
			two := []string{value, "5"}
			values(t, kind, two, plainCombine(kind, two), plainReduce(kind, two))
			two = []string{"5", value}
			values(t, kind, two, plainCombine(kind, two), plainReduce(kind, two))
		}
	}
}

func TestNoValues(t *testing.T) {
	for _, kind := range kinds() {
		values(t, kind, nil, nil, nil)
		values(t, kind, []string{}, nil, nil)
		values(t, kind, words("1 2")[:0], nil, nil)
	}
}

func TestValuesOfNoSuchKind(t *testing.T) {
	for _, kind := range kinds() {
		if kind < 0 || kind > 4 {
			values(t, kind, words("1 2 x"), nil, nil)
			values(t, kind, []string{""}, nil, nil)
		}
	}
}

func TestAnyValues(t *testing.T) {
	random := rand.New(rand.NewSource(153))
	for range 10000 {
		kind, list := random.Intn(7)-1, randomValues(random, 12)
		values(t, kind, list, plainCombine(kind, list), plainReduce(kind, list))
	}
}

// Which texts are numbers: alone each one is its own sum and index, and what is none is 0 and nothing.
func TestNumbersOfValues(t *testing.T) {
	for _, text := range numberTexts() {
		values(t, api.JobSum, []string{text}, []string{text}, []string{text})
		values(t, api.JobCount, []string{"0", text}, []string{text}, []string{text})
		isSame(t, "an index of "+text, Reduce(api.JobIndex, []string{text}), []string{text})
	}
	for _, text := range otherTexts() {
		values(t, api.JobSum, []string{text}, words("0"), words("0"))
		values(t, api.JobCount, []string{text, "7", text}, words("7"), words("7"))
		values(t, api.JobIndex, []string{text}, []string{text}, nil)
		values(t, api.JobIndex, []string{text, "7", text}, []string{text, "7", text}, words("7"))
	}
}

func TestSumsWrapRound(t *testing.T) {
	const most, least = "9223372036854775807", "-9223372036854775808"
	for _, c := range []struct{ list, want string }{
		{most + " 1", least},
		{least + " -1", most},
		{most + " " + most, "-2"},
		{least + " " + least, "0"},
		{most + " " + least, "-1"},
		{most + " 1 -1", most},
		{least + " -1 1", least},
		{most + " " + most + " " + most, "9223372036854775805"},
		{most + " 1 x", least},
		{"1 2 3 -6", "0"},
		{"-1 -1", "-2"},
		{"0 0", "0"},
	} {
		for _, kind := range []int{api.JobCount, api.JobSum} {
			values(t, kind, words(c.list), []string{c.want}, []string{c.want})
		}
	}
	random := rand.New(rand.NewSource(1531))
	for range 2000 {
		var sum int64
		var list []string
		for range 1 + random.Intn(20) {
			number := int64(random.Uint64())
			sum += number
			list = append(list, strconv.FormatInt(number, 10))
		}
		want := []string{strconv.FormatInt(sum, 10)}
		values(t, api.JobSum, list, want, want)
	}
}

func TestManyValues(t *testing.T) {
	ones := slices.Repeat(words("1"), 100000)
	values(t, api.JobCount, ones, words("100000"), words("100000"))
	isSame(t, "an index of alike places", Reduce(api.JobIndex, ones), words("1"))
	isNumber(t, "a sort of alike values", len(Reduce(api.JobSort, ones)), 100000)
	isSame(t, "the first of many", Reduce(api.JobDistinct, ones), words("1"))
}

// Rising by number, not by bytes; each once, whether alike ones are neighbours or not.
func TestIndexRises(t *testing.T) {
	values(t, api.JobIndex, words("10 9 100 -1 -10 0 9"), words("10 9 100 -1 -10 0 9"), words("-10 -1 0 9 10 100"))
	values(t, api.JobIndex, words("5 5 5"), words("5 5 5"), words("5"))
	values(t, api.JobIndex, words("5 4 5 4 5"), words("5 4 5 4 5"), words("4 5"))
	values(t, api.JobIndex, words("x y -0 +1 01"), words("x y -0 +1 01"), nil)
	values(t, api.JobIndex, words("9223372036854775807 -9223372036854775808 0"), words("9223372036854775807 -9223372036854775808 0"), words("-9223372036854775808 0 9223372036854775807"))
	random := rand.New(rand.NewSource(1532))
	for range 500 {
		var list []string
		for range random.Intn(200) {
			list = append(list, strconv.Itoa(random.Intn(100)-50))
		}
		got := Reduce(api.JobIndex, list)
		before := math.MinInt
		for _, text := range got {
			number, err := strconv.Atoi(text)
			if err != nil || number <= before {
				t.Fatalf("an index that does not rise: %s", written(got))
			}
			before = number
		}
		isSame(t, "the index of "+written(list), got, plainRising(list))
	}
}

// Values have no bound here, and bytes of any kind.
func TestLongValues(t *testing.T) {
	long := []string{letters(100000), "\x00\xff", letters(1025)}
	values(t, api.JobSort, long, long, long)
	values(t, api.JobDistinct, long, long[:1], long[:1])
	values(t, api.JobIndex, long, long, nil)
	values(t, api.JobSum, long, words("0"), words("0"))
	digits := []string{strings.Repeat("9", 1<<20), "4"}
	values(t, api.JobSum, digits, words("4"), words("4"))
}

// 15.7

// cutAnew cuts values into neighbouring lists, combines some of them, and puts them one behind the other.
func cutAnew(random *rand.Rand, kind int, list []string) []string {
	var all []string
	for len(list) > 0 || random.Intn(3) == 0 {
		n := random.Intn(len(list) + 1)
		piece := list[:n]
		list = list[n:]
		if random.Intn(3) > 0 {
			piece = Combine(kind, piece)
		}
		all = append(all, piece...)
	}
	return all
}

func TestCombiningChangesNothing(t *testing.T) {
	random := rand.New(rand.NewSource(157))
	for range 10000 {
		kind, list := random.Intn(5), randomValues(random, 15)
		want := Reduce(kind, list)
		for again := range 4 {
			list = cutAnew(random, kind, list)
			isSame(t, "Reduce, combined so often: "+strconv.Itoa(again), Reduce(kind, list), want)
		}
	}
}

// Each way to cut a short list into lists, each of them combined or not.
func TestEachCutChangesNothing(t *testing.T) {
	for _, kind := range five() {
		for _, text := range []string{"1 1 1 1 1", "9223372036854775807 1 x 5 -3", "b a b a c", "9 10 9 x 007", "x y z 1 2"} {
			list := words(text)
			want := Reduce(kind, list)
			for cuts := range 1 << 4 {
				for combined := range 1 << 5 {
					var all []string
					from := 0
					for i := range list {
						if i < 4 && cuts>>i&1 == 0 {
							continue
						}
						piece := list[from : i+1]
						if combined>>from&1 == 1 {
							piece = Combine(kind, piece)
						}
						all = append(all, piece...)
						from = i + 1
					}
					isSame(t, "Reduce of "+text, Reduce(kind, all), want)
				}
			}
		}
	}
}

// What is combined once more stays as it is.
func TestCombinedAgain(t *testing.T) {
	random := rand.New(rand.NewSource(1571))
	for range 2000 {
		kind, list := random.Intn(5), randomValues(random, 10)
		once := Combine(kind, list)
		isSame(t, "Combine of Combine", Combine(kind, once), once)
		if len(once) > len(list) || kind != api.JobIndex && kind != api.JobSort && len(list) > 0 && len(once) != 1 {
			t.Fatalf("%d values are combined to %d", len(list), len(once))
		}
	}
}
