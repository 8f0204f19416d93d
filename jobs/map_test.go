package jobs

import (
	"math"
	"math/rand"
	"strconv"
	"strings"
	"testing"

	"winnow/api"
)

// 15.1

func TestCheck(t *testing.T) {
	for _, kind := range five() {
		isError(t, "Check of one of the five", Check(kind), api.OK)
	}
	for _, kind := range kinds() {
		want := api.ErrJob
		if kind == 0 || kind == 1 || kind == 2 || kind == 3 || kind == 4 {
			want = api.OK
		}
		isError(t, "Check of "+strconv.Itoa(kind), Check(kind), want)
	}
	for bit := range 64 {
		isError(t, "Check of a high kind", Check(math.MinInt|1<<bit), api.ErrJob)
	}
}

// 15.2

// list tells pairs of texts of the form "key=value".
func list(texts ...string) []api.Pair {
	var pairs []api.Pair
	for _, text := range texts {
		key, value, _ := strings.Cut(text, "=")
		pairs = append(pairs, api.Pair{Key: key, Value: value})
	}
	return pairs
}

func gives(t *testing.T, kind int, place int64, line string, dropped int, want ...string) {
	t.Helper()
	pairs, count := Map(kind, place, line)
	isSame(t, "Map of "+line, pairs, list(want...))
	isNumber(t, "dropped of "+line, count, dropped)
}

func TestMapExamples(t *testing.T) {
	gives(t, api.JobCount, 0, "a b, a", 0, "a=1", "b=1", "a=1")
	gives(t, api.JobIndex, 17, "x-y", 0, "x=17", "y=17")
	gives(t, api.JobCount, 0, letters(1025), 1)
	gives(t, api.JobIndex, 0, letters(1025), 1)
	gives(t, api.JobSum, 0, "k\t007", 1)
	gives(t, api.JobSum, 0, "k\t-5", 0, "k=-5")
	gives(t, api.JobSum, 0, "\t1", 0, "=1")
	gives(t, api.JobSum, 0, "k", 1)
	gives(t, api.JobSum, 0, "k\t1\t2", 1)
	gives(t, api.JobSort, 0, "b\tx\ty", 0, "b=x\ty")
	gives(t, api.JobSort, 0, "b", 0, "b=")
	gives(t, api.JobDistinct, 0, "", 0, "=")
}

func TestMapOfEachLine(t *testing.T) {
	for _, line := range oddLines() {
		for _, kind := range five() {
			sameMap(t, kind, 17, line)
		}
	}
}

func sameMap(t *testing.T, kind int, place int64, line string) {
	t.Helper()
	want, dropped := plainMap(kind, place, line)
	got, count := Map(kind, place, line)
	isSame(t, "Map of "+line, got, want)
	isNumber(t, "dropped of "+line, count, dropped)
}

func TestMapOfAnyLine(t *testing.T) {
	random := rand.New(rand.NewSource(152))
	for range 20000 {
		sameMap(t, random.Intn(7)-1, int64(random.Uint64()), randomLine(random))
	}
}

// All lines of up to five bytes, of few kinds.
func TestMapOfShortLines(t *testing.T) {
	lines := []string{""}
	for from := 0; len(lines[from]) < 5; from++ {
		for _, b := range []string{"a", "0", "1", "-", "\t"} {
			lines = append(lines, lines[from]+b)
		}
	}
	for _, line := range lines {
		for _, kind := range five() {
			sameMap(t, kind, 3, line)
		}
	}
}

func TestMapOfNoSuchKind(t *testing.T) {
	for _, kind := range kinds() {
		if kind >= 0 && kind <= 4 {
			continue
		}
		for _, line := range []string{"", "a", "a b", "k\t1", "k\tx", letters(1025), letters(1025) + "\t" + letters(1025)} {
			gives(t, kind, 17, line, 0)
		}
	}
}

// The place is of account for JobIndex alone.
func TestMapPlaces(t *testing.T) {
	for _, place := range places() {
		gives(t, api.JobIndex, place, "b a,b", 0, "b="+strconv.FormatInt(place, 10), "a="+strconv.FormatInt(place, 10), "b="+strconv.FormatInt(place, 10))
		gives(t, api.JobCount, place, "b a,b", 0, "b=1", "a=1", "b=1")
		gives(t, api.JobSum, place, "b\t3", 0, "b=3")
		gives(t, api.JobSort, place, "b\t3", 0, "b=3")
		gives(t, api.JobDistinct, place, "b\t3", 0, "b\t3=")
		for _, kind := range five() {
			sameMap(t, kind, place, "a\t1")
		}
	}
	gives(t, api.JobIndex, math.MinInt64, "x", 0, "x=-9223372036854775808")
	gives(t, api.JobIndex, math.MaxInt64, "x", 0, "x=9223372036854775807")
	gives(t, api.JobIndex, 0, "x", 0, "x=0")
}

// Each of the 256 bytes is of a word, or ends one.
func TestWordsByEachByte(t *testing.T) {
	inside := 0
	for b := range 256 {
		c := string([]byte{byte(b)})
		if b >= 'a' && b <= 'z' || b >= 'A' && b <= 'Z' || b >= '0' && b <= '9' {
			inside++
			gives(t, api.JobCount, 0, "x"+c+"y", 0, "x"+c+"y=1")
			gives(t, api.JobCount, 0, c, 0, c+"=1")
			continue
		}
		gives(t, api.JobCount, 0, "x"+c+"y", 0, "x=1", "y=1")
		gives(t, api.JobCount, 0, c+c+"x"+c+c, 0, "x=1")
		gives(t, api.JobCount, 0, c, 0)
		gives(t, api.JobIndex, 5, "x"+c+"y", 0, "x=5", "y=5")
	}
	isNumber(t, "bytes of words", inside, 62)
}

// Runes that the library calls letters or digits are none here, nor are those of which a byte looks like one.
func TestWordsAreOfBytes(t *testing.T) {
	gives(t, api.JobCount, 0, "aéb", 0, "a=1", "b=1")
	gives(t, api.JobCount, 0, "日a本1", 0, "a=1", "1=1")
	gives(t, api.JobCount, 0, "\u017f\u212a\uff11\u0663", 0)
	gives(t, api.JobCount, 0, "\xc3a\xe6\x97b\xf0\x9f\x98c", 0, "a=1", "b=1", "c=1")
	gives(t, api.JobIndex, 1, "\xffa\xfe", 0, "a=1")
}

// Alike words are told as often as they are there, and in order; upper and lower letters are unlike.
func TestWordsInOrder(t *testing.T) {
	gives(t, api.JobCount, 0, "b a b A a", 0, "b=1", "a=1", "b=1", "A=1", "a=1")
	gives(t, api.JobIndex, 2, "b a b A a", 0, "b=2", "a=2", "b=2", "A=2", "a=2")
	pairs, dropped := Map(api.JobCount, 0, strings.Repeat("w ", 32768))
	isNumber(t, "many words", len(pairs), 32768)
	isNumber(t, "none of them dropped", dropped, 0)
}

func TestLongWords(t *testing.T) {
	full, more := letters(1024), letters(1025)
	gives(t, api.JobCount, 0, full, 0, full+"=1")
	gives(t, api.JobCount, 0, more, 1)
	gives(t, api.JobCount, 0, more+" b "+more, 2, "b=1")
	gives(t, api.JobCount, 0, "a "+more+"-"+full+"-"+more+" b", 2, "a=1", full+"=1", "b=1")
	gives(t, api.JobIndex, 3, more+" b "+more, 2, "b=3")
	gives(t, api.JobIndex, math.MinInt64, full, 0, full+"=-9223372036854775808")
	gives(t, api.JobCount, 0, letters(65536), 1)
	// A long line of words that are not long loses none.
	gives(t, api.JobCount, 0, full+" "+full, 0, full+"=1", full+"=1")
}

func TestNumbersOfLines(t *testing.T) {
	for _, text := range numberTexts() {
		gives(t, api.JobSum, 0, "k\t"+text, 0, "k="+text)
		gives(t, api.JobSum, 0, "\t"+text, 0, "="+text)
		gives(t, api.JobSum, 0, text, 1)
	}
	for _, text := range otherTexts() {
		gives(t, api.JobSum, 0, "k\t"+text, 1)
		gives(t, api.JobSum, 0, "k\t"+text+"\t1", 1)
	}
	gives(t, api.JobSum, 0, "", 1)
	gives(t, api.JobSum, 0, "\t", 1)
	gives(t, api.JobSum, 0, "a b, c\t-12", 0, "a b, c=-12")
}

// A line is dropped once, however many reasons there are.
func TestLongLinesAreDroppedOnce(t *testing.T) {
	full, more := letters(1024), letters(1025)
	gives(t, api.JobSum, 0, full+"\t1", 0, full+"=1")
	gives(t, api.JobSum, 0, more+"\t1", 1)
	gives(t, api.JobSum, 0, more+"\tx", 1)
	gives(t, api.JobSum, 0, more, 1)
	gives(t, api.JobSort, 0, full+"\t"+full, 0, full+"="+full)
	gives(t, api.JobSort, 0, more+"\t"+full, 1)
	gives(t, api.JobSort, 0, full+"\t"+more, 1)
	gives(t, api.JobSort, 0, more+"\t"+more, 1)
	gives(t, api.JobSort, 0, full, 0, full+"=")
	gives(t, api.JobSort, 0, more, 1)
	gives(t, api.JobSort, 0, "\t"+more, 1)
	gives(t, api.JobDistinct, 0, full, 0, full+"=")
	gives(t, api.JobDistinct, 0, more, 1)
	gives(t, api.JobDistinct, 0, full[:1023]+"\t", 0, full[:1023]+"\t=")
	gives(t, api.JobDistinct, 0, full+"\t", 1)
	gives(t, api.JobDistinct, 0, strings.Repeat(" ", 65536), 1)
}

func TestTabs(t *testing.T) {
	gives(t, api.JobSort, 0, "\t", 0, "=")
	gives(t, api.JobSort, 0, "\t\t", 0, "=\t")
	gives(t, api.JobSort, 0, "a\t", 0, "a=")
	gives(t, api.JobSort, 0, "\ta", 0, "=a")
	gives(t, api.JobSort, 0, "a\t\tb\t", 0, "a=\tb\t")
	gives(t, api.JobSort, 0, "", 0, "=")
	gives(t, api.JobSort, 0, "a b", 0, "a b=")
	gives(t, api.JobDistinct, 0, "\ta\t", 0, "\ta\t=")
	gives(t, api.JobCount, 0, "\ta\tb\t", 0, "a=1", "b=1")
}

// 15.4

func TestLine(t *testing.T) {
	for _, c := range [][3]string{
		{"k", "v", "k\tv\n"}, {"", "", "\t\n"}, {"k", "", "k\t\n"}, {"", "v", "\tv\n"}, {"a\tb", "c\td", "a\tb\tc\td\n"}, {"a\n", "\n", "a\n\t\n\n"}, {"\x00\xff", "é", "\x00\xff\té\n"},
	} {
		isSame(t, "Line", []string{Line(c[0], c[1])}, []string{c[2]})
	}
	for _, length := range []int{1023, 1024, 1025, 1 << 20} {
		isSame(t, "a long one", []string{Line(letters(length), letters(length+1))}, []string{letters(length) + "\x09" + letters(length+1) + "\x0a"})
	}
	random := rand.New(rand.NewSource(154))
	for range 1000 {
		key, value := randomLine(random), randomLine(random)
		isSame(t, "Line", []byte(Line(key, value)), append(append(append([]byte(key), 9), value...), 10))
	}
}
