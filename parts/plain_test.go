package parts

import (
	"fmt"
	"hash/crc32"
	"math"
	"math/big"
	"math/rand"
	"slices"
	"strings"
	"testing"

	"winnow/api"
)

// The calls have these signatures, to the letter.
var (
	_ func(string, int) int                     = Hash
	_ func([]string, int) ([]string, api.Errno) = Bounds
	_ func([]string, string) int                = Range
	_ func(api.Job) api.Errno                   = Check
	_ func(api.Job, string) int                 = Of
)

// plainHash goes by the words of 14.1, with the library's sums and numbers without bound.
func plainHash(key string, n int) int {
	if n < 1 || n > 65535 {
		return 0
	}
	sum := crc32.Checksum([]byte(key), crc32.MakeTable(crc32.Castagnoli))
	return int(new(big.Int).Mod(new(big.Int).SetUint64(uint64(sum)), big.NewInt(int64(n))).Int64())
}

// plainBelow goes by the words of R7, byte by byte.
func plainBelow(a, b string) bool {
	for i := 0; ; i++ {
		if i == len(b) {
			return false
		}
		if i == len(a) {
			return true
		}
		if a[i] != b[i] {
			return a[i] < b[i]
		}
	}
}

// plainSorted puts each key behind those that are not above it.
func plainSorted(sample []string) []string {
	var sorted []string
	for _, key := range sample {
		at := len(sorted)
		for at > 0 && plainBelow(key, sorted[at-1]) {
			at--
		}
		sorted = slices.Insert(sorted, at, key)
	}
	return sorted
}

// plainBounds goes by the words of 14.2, with numbers without bound.
func plainBounds(sample []string, n int) ([]string, api.Errno) {
	if len(sample) > 65536 {
		return nil, api.ErrLong
	}
	if n < 1 || n > 65535 {
		return nil, api.ErrArg
	}
	for _, key := range sample {
		if len(key) > 1024 {
			return nil, api.ErrBounds
		}
	}
	var bounds []string
	s := plainSorted(sample)
	for i := 1; i <= n-1; i++ {
		if len(s) == 0 {
			bounds = append(bounds, "")
			continue
		}
		place := new(big.Int).Mul(big.NewInt(int64(i)), big.NewInt(int64(len(s))))
		place.Div(place, big.NewInt(int64(n)))
		bounds = append(bounds, s[place.Int64()])
	}
	return bounds, api.OK
}

// plainRange goes by the words of 14.3.
func plainRange(bounds []string, key string) int {
	notAbove := 0
	for _, bound := range bounds {
		if bound == key || plainBelow(bound, key) {
			notAbove++
		}
	}
	return notAbove
}

// plainCheck goes by the words of 14.4.
func plainCheck(j api.Job) api.Errno {
	if j.Parts < 1 || j.Parts > 65535 {
		return api.ErrArg
	}
	if len(j.Bounds) == 0 {
		return api.OK
	}
	if len(j.Bounds) != j.Parts-1 {
		return api.ErrBounds
	}
	for i, bound := range j.Bounds {
		if i > 0 && plainBelow(bound, j.Bounds[i-1]) || len(bound) > 1024 {
			return api.ErrBounds
		}
	}
	return api.OK
}

// plainOf goes by the words of 14.5.
func plainOf(j api.Job, key string) int {
	if plainCheck(j) != api.OK {
		return 0
	}
	if len(j.Bounds) == 0 {
		return plainHash(key, j.Parts)
	}
	return plainRange(j.Bounds, key)
}

func isNumber(t *testing.T, what string, got, want int) {
	t.Helper()
	if got != want {
		t.Fatalf("%.300q: %d, and not %d", what, got, want)
	}
}

func isError(t *testing.T, what string, got, want api.Errno) {
	t.Helper()
	if got != want {
		t.Fatalf("%.300q: error %d, and not %d", what, got, want)
	}
}

func isSame(t *testing.T, what string, got, want []string) {
	t.Helper()
	if !slices.Equal(got, want) {
		t.Fatalf("%.300q: %s, and not %s", what, written(got), written(want))
	}
}

// written tells a value's beginning as Go writes it, so that each byte is seen.
func written(value any) string {
	return fmt.Sprintf("%.300s", fmt.Sprintf("%#v", value))
}

// bounds tells the bounds of a sample that is taken.
func bounds(t *testing.T, sample []string, n int) []string {
	t.Helper()
	list, err := Bounds(sample, n)
	isError(t, "Bounds", err, api.OK)
	return list
}

// words tells a list of the words of a text.
func words(text string) []string {
	return strings.Fields(text)
}

// keys are texts that may be taken for one another: without bytes, with bytes of all kinds, ones that begin alike, of all lengths.
func keys() []string {
	list := []string{
		"", "\x00", "\x00\x00", "\x00\xff", "\x01", "\n", " ", "0", "00", "1", "10", "9",
		"A", "B", "Z", "a", "a\x00", "a\x00b", "a ", "aA", "aa", "aaa", "ab", "abc", "abd", "b", "ba", "c", "ca", "d", "f", "z", "zz",
		"\x7f", "\x80", "\x80a", "\xc3", "\xc3\x28", "é", "日", "日本", "\xf0\x9f", "\xfe", "\xff", "\xff\x00", "\xff\xff",
		"123456789", strings.Repeat("k", 1023), strings.Repeat("k", 1024), strings.Repeat("k", 1023) + "j", strings.Repeat("k", 1023) + "l",
		strings.Repeat("k", 1025), strings.Repeat("\xff", 1024), strings.Repeat("x", 5000),
	}
	for b := range 256 {
		list = append(list, string([]byte{byte(b)}), string([]byte{'k', byte(b)}), string([]byte{byte(b), 'k'}))
	}
	return list
}

// numbers are numbers of partitions at all edges.
func numbers() []int {
	return []int{
		math.MinInt, math.MinInt + 1, math.MinInt32, -65537, -65536, -65535, -2, -1, 0, 1, 2, 3, 4, 5, 7, 8, 10, 16, 100, 255, 256, 257, 1000,
		32767, 32768, 65533, 65534, 65535, 65536, 65537, 65538, 1 << 17, math.MaxInt32, math.MaxInt32 + 1, 1 << 32, 1<<32 + 1, 1<<32 + 7, math.MaxInt - 1, math.MaxInt,
	}
}

// randomKey tells some bytes: mostly few of few kinds, so that there are alike ones and ones that begin alike.
func randomKey(random *rand.Rand) string {
	switch random.Intn(8) {
	case 0:
		b := make([]byte, random.Intn(40))
		random.Read(b)
		return string(b)
	case 1:
		return strings.Repeat("k", random.Intn(1025))
	}
	b := make([]byte, random.Intn(4))
	for i := range b {
		b[i] = "\x00ab\xff"[random.Intn(4)]
	}
	return string(b)
}

func randomKeys(random *rand.Rand, most int) []string {
	list := make([]string, random.Intn(most+1))
	for i := range list {
		list[i] = randomKey(random)
	}
	return list
}

// numbered tells count keys, all unlike, of five bytes, rising.
func numbered(count int) []string {
	list := make([]string, count)
	for i := range list {
		list[i] = fmt.Sprintf("%05x", i)
	}
	return list
}

// shuffled tells the keys in another order.
func shuffled(random *rand.Rand, list []string) []string {
	other := slices.Clone(list)
	random.Shuffle(len(other), func(a, b int) { other[a], other[b] = other[b], other[a] })
	return other
}
