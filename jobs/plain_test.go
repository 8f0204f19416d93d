package jobs

import (
	"fmt"
	"hash/crc32"
	"math"
	"math/big"
	"math/rand"
	"slices"
	"strings"
	"testing"

	"winnow/api"
)

// The calls have these signatures, to the letter.
var (
	_ func(int) api.Errno                                     = Check
	_ func(int, int64, string) ([]api.Pair, int)              = Map
	_ func(int, []string) []string                            = Combine
	_ func(int, []string) []string                            = Reduce
	_ func(string, string) string                             = Line
	_ func(api.Job, []api.Split) ([]string, int64, api.Errno) = Mean
)

// plainNumber goes by the words: decimal digits without needless zeros, a - ahead below 0, within an int64. Numbers without bound are taken.
func plainNumber(text string) (*big.Int, bool) {
	digits := strings.TrimPrefix(text, "-")
	if digits == "" || len(digits) > 19 {
		return nil, false
	}
	for i := range len(digits) {
		if digits[i] < '0' || digits[i] > '9' {
			return nil, false
		}
	}
	if digits[0] == '0' && text != "0" {
		return nil, false
	}
	number, _ := new(big.Int).SetString(text, 10)
	return number, number.IsInt64()
}

// plainWords goes by the words: longest runs of bytes out of a to z, A to Z, 0 to 9.
func plainWords(line string) []string {
	const of = "abcdefghijklmnopqrstuvwxyzABCDEFGHIJKLMNOPQRSTUVWXYZ0123456789"
	var words []string
	from := 0
	for i := range len(line) + 1 {
		if i < len(line) && strings.IndexByte(of, line[i]) >= 0 {
			continue
		}
		if from < i {
			words = append(words, line[from:i])
		}
		from = i + 1
	}
	return words
}

// plainTab tells what stands ahead of the first TAB and behind it, and whether there is one.
func plainTab(line string) (string, string, bool) {
	for i := range len(line) {
		if line[i] == 9 {
			return line[:i], line[i+1:], true
		}
	}
	return line, "", false
}

// plainMap goes by the table, row by row.
func plainMap(kind int, place int64, line string) (pairs []api.Pair, dropped int) {
	give := func(key, value string) {
		if len(key) > 1024 || len(value) > 1024 {
			dropped++
			return
		}
		pairs = append(pairs, api.Pair{Key: key, Value: value})
	}
	switch kind {
	case 0:
		for _, word := range plainWords(line) {
			give(word, "1")
		}
	case 1:
		for _, word := range plainWords(line) {
			give(word, big.NewInt(place).String())
		}
	case 2:
		key, value, some := plainTab(line)
		if _, is := plainNumber(value); !some || !is {
			return nil, 1
		}
		give(key, value)
	case 3:
		key, value, _ := plainTab(line)
		give(key, value)
	case 4:
		give(line, "")
	}
	return pairs, dropped
}

// plainSum adds without bound, and then brings the sum into an int64.
func plainSum(values []string) string {
	sum := new(big.Int)
	for _, value := range values {
		if number, is := plainNumber(value); is {
			sum.Add(sum, number)
		}
	}
	round := new(big.Int).Lsh(big.NewInt(1), 64)
	sum.Mod(sum, round)
	if sum.BitLen() > 63 {
		sum.Sub(sum, round)
	}
	return sum.String()
}

// plainRising takes the least number that is above the last one, again and again.
func plainRising(values []string) []string {
	var rising []string
	var last *big.Int
	for {
		var least *big.Int
		for _, value := range values {
			number, is := plainNumber(value)
			if is && (last == nil || number.Cmp(last) > 0) && (least == nil || number.Cmp(least) < 0) {
				least = number
			}
		}
		if least == nil {
			return rising
		}
		rising = append(rising, least.String())
		last = least
	}
}

// plainCombine goes by the table.
func plainCombine(kind int, values []string) []string {
	if len(values) == 0 {
		return nil
	}
	switch kind {
	case 0, 2:
		return []string{plainSum(values)}
	case 1, 3:
		return values
	case 4:
		return values[:1]
	}
	return nil
}

// plainReduce goes by the table.
func plainReduce(kind int, values []string) []string {
	if kind == 1 {
		return plainRising(values)
	}
	return plainCombine(kind, values)
}

// placed is a line and its place.
type placed struct {
	at   int64
	line string
}

// plainAll goes through a split's bytes.
func plainAll(s api.Split) []placed {
	var list []placed
	from := 0
	for i := range len(s.Text) {
		if s.Text[i] == 10 {
			list = append(list, placed{s.Offset + int64(from), s.Text[from:i]})
			from = i + 1
		}
	}
	if from < len(s.Text) {
		list = append(list, placed{s.Offset + int64(from), s.Text[from:]})
	}
	return list
}

// plainBelow goes by the words of R7, byte by byte.
func plainBelow(a, b string) bool {
	for i := 0; ; i++ {
		if i == len(b) {
			return false
		}
		if i == len(a) {
			return true
		}
		if a[i] != b[i] {
			return a[i] < b[i]
		}
	}
}

// plainPart goes by the words of chapter 14.
func plainPart(j api.Job, key string) int {
	if len(j.Bounds) == 0 {
		return int(crc32.Checksum([]byte(key), crc32.MakeTable(crc32.Castagnoli)) % uint32(j.Parts))
	}
	notAbove := 0
	for _, bound := range j.Bounds {
		if !plainBelow(key, bound) {
			notAbove++
		}
	}
	return notAbove
}

// plainPairs tells all pairs of the splits, in order, and how many things were dropped.
func plainPairs(kind int, splits []api.Split) (all []api.Pair, dropped int64) {
	for _, split := range splits {
		for _, p := range plainAll(split) {
			pairs, count := plainMap(kind, p.at, p.line)
			all = append(all, pairs...)
			dropped += int64(count)
		}
	}
	return all, dropped
}

// plainKeys tells the keys, each once, rising.
func plainKeys(pairs []api.Pair) []string {
	var keys []string
	for _, pair := range pairs {
		at := len(keys)
		for at > 0 && plainBelow(pair.Key, keys[at-1]) {
			at--
		}
		if at == 0 || keys[at-1] != pair.Key {
			keys = slices.Insert(keys, at, pair.Key)
		}
	}
	return keys
}

// plainMean goes by the words of 15.5, of a job and splits that may be.
func plainMean(j api.Job, splits []api.Split) ([]string, int64) {
	pairs, dropped := plainPairs(j.Kind, splits)
	texts := make([]string, j.Parts)
	for _, key := range plainKeys(pairs) {
		var values []string
		for _, pair := range pairs {
			if pair.Key == key {
				values = append(values, pair.Value)
			}
		}
		for _, value := range plainReduce(j.Kind, values) {
			texts[plainPart(j, key)] += key + "\x09" + value + "\x0a"
		}
	}
	return texts, dropped
}

// written tells a value's beginning as Go writes it, so that each byte is seen.
func written(value any) string {
	return fmt.Sprintf("%.300s", fmt.Sprintf("%#v", value))
}

func isNumber[T int | int64](t *testing.T, what string, got, want T) {
	t.Helper()
	if got != want {
		t.Fatalf("%.300q: %d, and not %d", what, got, want)
	}
}

func isError(t *testing.T, what string, got, want api.Errno) {
	t.Helper()
	if got != want {
		t.Fatalf("%.300q: error %d, and not %d", what, got, want)
	}
}

func isSame[T comparable](t *testing.T, what string, got, want []T) {
	t.Helper()
	if !slices.Equal(got, want) {
		t.Fatalf("%.300q: %s, and not %s", what, written(got), written(want))
	}
}

// mean tells the meaning of a job that may be.
func mean(t *testing.T, j api.Job, splits []api.Split) ([]string, int64) {
	t.Helper()
	texts, dropped, err := Mean(j, splits)
	isError(t, "Mean of "+written(j), err, api.OK)
	isNumber(t, "how many texts", len(texts), j.Parts)
	return texts, dropped
}

// kinds are the five kinds, the ones beside them, and the last ints.
func kinds() []int {
	return []int{math.MinInt, math.MinInt32, -256, -5, -2, -1, 0, 1, 2, 3, 4, 5, 6, 7, 9, 99, 256, 257, 1 << 32, 1<<32 + 1, math.MaxInt - 1, math.MaxInt}
}

// five are the kinds that there are.
func five() []int {
	return []int{api.JobCount, api.JobIndex, api.JobSum, api.JobSort, api.JobDistinct}
}

// places are places of all kinds.
func places() []int64 {
	return []int64{math.MinInt64, math.MinInt64 + 1, -1 << 32, -10, -1, 0, 1, 7, 9, 10, 17, 99, 100, 1<<31 - 1, 1 << 31, 1 << 32, math.MaxInt64 - 1, math.MaxInt64}
}

// numberTexts are texts that are numbers.
func numberTexts() []string {
	return []string{
		"0", "1", "-1", "5", "-5", "7", "9", "10", "-10", "100", "123456789", "2147483647", "2147483648", "-2147483648", "-2147483649", "4294967296",
		"999999999999999999", "1000000000000000000", "-1000000000000000000", "9223372036854775806", "9223372036854775807", "-9223372036854775807", "-9223372036854775808",
	}
}

// otherTexts are texts that are no numbers, though most of them are nearly one.
func otherTexts() []string {
	list := []string{
		"", "-", "--", "-0", "+0", "+1", "+", "00", "01", "007", "-01", "-007", "--1", "-+1", "+-1", "1-", "1-1", "- 1", " 1", "1 ", "\t1", "1\t", "1\t2", "1\n", "1\r", "\n1", "1\x00", "\x001",
		"1.0", "1.", ".1", "1e3", "0x1", "0b1", "0o1", "0x", "1_0", "_1", "1,000", "1a", "a1", "1a1", "x", "a", "inf", "nan", "NaN", "true",
		"\u0663", "\uff11", "1\xff", "\xff1", "1é", "é1", "\u22121", "\u20131",
		"9223372036854775808", "9223372036854775809", "-9223372036854775809", "-9223372036854775810", "9999999999999999999", "10000000000000000000", "-10000000000000000000",
		"18446744073709551615", "18446744073709551616", "18446744073709551617", "-18446744073709551617", "36893488147419103233",
		"0000000000000000000000001", "99999999999999999999999999999999999999", strings.Repeat("1", 1024), strings.Repeat("0", 1024), "-" + strings.Repeat("9", 1023), strings.Repeat("1", 1025),
	}
	for b := range 256 {
		if c := string([]byte{byte(b)}); b < '0' || b > '9' {
			list = append(list, c, "1"+c, "1"+c+"2")
			if b != '-' {
				list = append(list, c+"1")
			}
		}
	}
	return list
}

// letters tells a word of so many bytes.
func letters(length int) string {
	return strings.Repeat("aZ9b", length/4+1)[:length]
}

// oddLines are lines at all edges.
func oddLines() []string {
	full, more := letters(1024), letters(1025)
	list := []string{
		"", " ", "-", "--", "\t", "\t\t", "\t\t\t", "\r", "\n", "a\nb", "\x00", "\xff", "é", "\xc3", "\xc3a", "a\xc3", "日本", "\xf0\x9f\x98a", "\ufffd", "ªb", "Ünder", "a\uff11b", "\u017f", "a\u212a",
		"a", "A", "0", "9z", "a b, a", "x-y", "x_y", "don't", "a.b.c", "--A9z_é", " a", "a ", "  a  b  ", "a\tb", "\ta", "a\t", "\ta\t", "a\t\t", "\t\ta", "a\tb\tc", "@`[{/:", "a@b`c[d{e/f:g",
		"k\t1", "k\t-5", "k\t007", "k\t1\t2", "\t1", "\t1\t", "1\t", "k", "k\t", "k 1", "1", "-1", "\t-0", "k\t0", "k\t+1", " k\t1", "k \t1", "k\t 1", "k\t1 ", "k\t1\r", "é\t1", "\xff\t1", "a b\t12",
		full, more, full + " ", more + " b", "b " + more, more + " " + more, full + " " + full, full + "é" + more, full[:1023], full[:1023] + "-", full[:1023] + "--",
		full + "\t1", more + "\t1", full + "\t", more + "\t", "\t" + full, "\t" + more, "b\t" + full, "b\t" + more, full + "\t" + full, full + "\t" + more, more + "\t" + full, more + "\t" + more,
		full + "\t007", more + "\t007", more + "\tx", full[:1022] + "\t1", full[:1023] + "\t1", full[:1023] + "\t" + full[:1023], full[:500] + "\t" + full[:523], full[:500] + "\t" + full[:524], full[:512] + "\tx\t" + full[:510],
		strings.Repeat(" ", 1025), strings.Repeat("\t", 1025), strings.Repeat("\t", 1026), strings.Repeat("a ", 2000), strings.Repeat("x", 65536),
	}
	for b := range 256 {
		c := string([]byte{byte(b)})
		list = append(list, c, "a"+c, c+"a", "a"+c+"b", "k\t"+c, "k\t1"+c, c+"\t1", "k"+c+"1")
	}
	for _, text := range append(numberTexts(), otherTexts()...) {
		list = append(list, "k\t"+text, "\t"+text, "k\t"+text+"\t", text)
	}
	return list
}

// randomLine tells some bytes: mostly few of few kinds, so that there are words, TABs, numbers and alike ones.
func randomLine(random *rand.Rand) string {
	switch random.Intn(10) {
	case 0:
		b := make([]byte, random.Intn(30))
		random.Read(b)
		return strings.ReplaceAll(string(b), "\n", "\r")
	case 1:
		return strings.Repeat("w", 1020+random.Intn(10)) + "\t" + strings.Repeat("v", 1020+random.Intn(10))
	case 2, 3, 4:
		return randomText(random, "ab", 2) + "\t" + randomValue(random)
	}
	return randomText(random, "ab \t-", 8)
}

func randomText(random *rand.Rand, of string, most int) string {
	b := make([]byte, random.Intn(most+1))
	for i := range b {
		b[i] = of[random.Intn(len(of))]
	}
	return string(b)
}

// randomValue tells a number, or nearly one.
func randomValue(random *rand.Rand) string {
	switch random.Intn(6) {
	case 0:
		list := numberTexts()
		return list[random.Intn(len(list))]
	case 1:
		list := otherTexts()
		return list[random.Intn(len(list))]
	case 2:
		return fmt.Sprint(int64(random.Uint64()))
	}
	return fmt.Sprint(random.Intn(30) - 5)
}

func randomValues(random *rand.Rand, most int) []string {
	list := make([]string, random.Intn(most+1))
	for i := range list {
		list[i] = randomValue(random)
	}
	return list
}

// randomSplits tells splits of some lines each, now and then with a last line that no line feed ends.
func randomSplits(random *rand.Rand) []api.Split {
	splits := make([]api.Split, random.Intn(5))
	for i := range splits {
		splits[i].Offset = int64(random.Intn(1000))
		if random.Intn(5) == 0 {
			splits[i].Offset = int64(random.Uint64())
		}
		for range random.Intn(8) {
			splits[i].Text += randomLine(random) + "\n"
		}
		if random.Intn(2) == 0 {
			splits[i].Text += randomLine(random)
		}
	}
	return splits
}

// randomJob tells a job that may be, by hash or by bounds.
func randomJob(random *rand.Rand) api.Job {
	j := api.Job{Kind: random.Intn(5), Parts: 1 + random.Intn(6)}
	if random.Intn(2) == 0 {
		for range j.Parts - 1 {
			j.Bounds = append(j.Bounds, randomText(random, "ab w", 3))
		}
		slices.Sort(j.Bounds)
	}
	return j
}
