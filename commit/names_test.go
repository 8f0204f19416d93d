package commit

import (
	"math/rand"
	"strings"
	"testing"

	"winnow/api"
)

// 20.1

func TestNames(t *testing.T) {
	for out, want := range map[string]api.Errno{
		"":               api.ErrName,
		"a":              api.OK,
		"z":              api.OK,
		"wc":             api.OK,
		"wc-2":           api.OK,
		"a-":             api.OK,
		"a--":            api.OK,
		"z9":             api.OK,
		"a0":             api.OK,
		"a-b-c-d-e-f9":   api.OK,
		"abcdefghijkl":   api.OK,
		"abcdefghijklm":  api.ErrName,
		"a23456789012":   api.OK,
		"a234567890123":  api.ErrName,
		"9":              api.ErrName,
		"9a":             api.ErrName,
		"-":              api.ErrName,
		"-a":             api.ErrName,
		"a.b":            api.ErrName,
		".":              api.ErrName,
		"a.":             api.ErrName,
		"A":              api.ErrName,
		"aB":             api.ErrName,
		"a ":             api.ErrName,
		" a":             api.ErrName,
		"a\x00":          api.ErrName,
		"a_":             api.ErrName,
		"a/b":            api.ErrName,
		"a\n":            api.ErrName,
		"\xff":           api.ErrName,
		"\xc3\xa9":       api.ErrName,
		"a\xc3\xa9":      api.ErrName,
		"abcdefghijk\n":  api.ErrName,
		"abcdefghijkl\n": api.ErrName,
		"abcdefghijk.":   api.ErrName,
	} {
		isError(t, written(out), CheckName(out), want)
	}
}

// Each byte, as the first one and at each later place, of each length.
func TestEachByteOfNames(t *testing.T) {
	for length := range 15 {
		for place := range length {
			for c := range 256 {
				b := []byte(strings.Repeat("k", length))
				b[place] = byte(c)
				want := api.ErrName
				isLetter := c >= 'a' && c <= 'z'
				isMore := c >= '0' && c <= '9' || c == '-'
				if length <= 12 && (isLetter || isMore && place > 0) {
					want = api.OK
				}
				isError(t, written(string(b)), CheckName(string(b)), want)
			}
		}
	}
}

func TestLongNames(t *testing.T) {
	for _, length := range []int{12, 13, 14, 40, 41, 255, 256, 257, 268, 1 << 16, 1 << 20} {
		want := api.ErrName
		if length == 12 {
			want = api.OK
		}
		isError(t, "a long name", CheckName(strings.Repeat("a", length)), want)
	}
}

func TestRandomNames(t *testing.T) {
	random := rand.New(rand.NewSource(201))
	for range 20000 {
		b := make([]byte, random.Intn(15))
		for i := range b {
			b[i] = "abyz09-"[random.Intn(7)]
			if random.Intn(20) == 0 {
				b[i] = "./`{:@ \xff"[random.Intn(8)]
			}
		}
		isError(t, written(string(b)), CheckName(string(b)), plainCheckName(string(b)))
	}
}
