package huff

import (
	"math"
	"math/rand"
	"slices"
	"strings"
	"testing"

	"winnow/api"
)

// plainCodes goes by the words of promise 4.3, of lengths that are right.
func plainCodes(lens []int) []api.Code {
	codes := make([]api.Code, len(lens))
	begun, last := false, api.Code{}
	for l := 1; l <= 15; l++ {
		for s := range lens {
			if lens[s] != l {
				continue
			}
			word := api.Code{Len: l}
			if begun {
				word.Bits = (last.Bits + 1) << (l - last.Len)
			}
			codes[s], last, begun = word, word, true
		}
	}
	return codes
}

// spell tells the bits of a word, as they are written.
func spell(c api.Code) string {
	var b strings.Builder
	for i := c.Len - 1; i >= 0; i-- {
		b.WriteByte('0' + byte(c.Bits>>i&1))
	}
	return b.String()
}

// rightLengths are n lengths that are right, for the most part not those of any counts.
func rightLengths(r *rand.Rand, n int) []int {
	lens, left := make([]int, n), 1<<15
	for _, s := range r.Perm(n) {
		l := 1 + r.Intn(15)
		if r.Intn(3) > 0 && 1<<(15-l) <= left {
			lens[s] = l
			left -= 1 << (15 - l)
		}
	}
	return lens
}

func TestCodesExamples(t *testing.T) {
	for _, c := range []struct {
		lens []int
		want []api.Code
		err  api.Errno
	}{
		{[]int{1, 2, 2}, []api.Code{{Len: 1, Bits: 0}, {Len: 2, Bits: 2}, {Len: 2, Bits: 3}}, api.OK},
		{[]int{1, 1, 1}, nil, api.ErrLimit},
		{[]int{2, 0, 2}, []api.Code{{Len: 2, Bits: 0}, {Len: 0, Bits: 0}, {Len: 2, Bits: 1}}, api.OK},
		{[]int{16}, nil, api.ErrArg},
	} {
		if codes, e := Codes(c.lens); e != c.err || !slices.Equal(codes, c.want) {
			t.Errorf("Codes(%v) = %v, %d, want %v, %d", c.lens, codes, e, c.want, c.err)
		}
	}
}

// 4.3

func TestCodesEdges(t *testing.T) {
	chain := []int{1, 2, 3, 4, 5, 6, 7, 8, 9, 10, 11, 12, 13, 14, 15}
	for name, c := range map[string]struct {
		lens []int
		want string
	}{
		"nil":                           {nil, ""},
		"no lengths":                    {[]int{}, ""},
		"none has a word":               {[]int{0, 0, 0}, ", , "},
		"one of one bit":                {[]int{1}, "0"},
		"one of MaxCode bits":           {[]int{0, 15}, ", 000000000000000"},
		"a sum of just 1":               {[]int{1, 1}, "0, 1"},
		"a sum of just 1, falling":      {[]int{3, 3, 2, 1}, "110, 111, 10, 0"},
		"a sum below 1":                 {[]int{2, 2, 2}, "00, 01, 10"},
		"with lengths left out":         {[]int{5, 2, 5, 2}, "10000, 00, 10001, 01"},
		"the shortest is not 1":         {[]int{4, 3, 0, 3}, "0100, 000, , 001"},
		"from 1 to 15 in one step":      {[]int{15, 1, 15}, "100000000000000, 0, 100000000000001"},
		"symbols of one length rise":    {[]int{2, 1, 2}, "10, 0, 11"},
		"a chain to MaxCode, below 1":   {chain[:3], "0, 10, 110"},
		"and behind it to just 1":       {append(slices.Clone(chain[:3]), 3), "0, 10, 110, 111"},
		"the last word is all ones":     {append(slices.Clone(chain), 15), ""},
		"256 of eight bits: just 1":     {slices.Repeat([]int{8}, 256), ""},
		"256 of MaxCode bits: far less": {slices.Repeat([]int{15}, 256), ""},
	} {
		codes, e := Codes(c.lens)
		if e != api.OK || !slices.Equal(codes, plainCodes(c.lens)) {
			t.Errorf("%s: Codes(%v) = %v, %d", name, c.lens, codes, e)
			continue
		}
		var spelt []string
		for _, w := range codes {
			spelt = append(spelt, spell(w))
		}
		if c.want != "" && strings.Join(spelt, ", ") != c.want {
			t.Errorf("%s: %v, want %s", name, spelt, c.want)
		}
	}
	codes, _ := Codes(append(slices.Clone(chain), 15))
	if last := codes[15]; last != (api.Code{Len: 15, Bits: 1<<15 - 1}) {
		t.Errorf("the last word of a chain is %v", last)
	}
	codes, _ = Codes(slices.Repeat([]int{8}, 256))
	for s, c := range codes {
		if c != (api.Code{Len: 8, Bits: uint32(s)}) {
			t.Errorf("of 256 words of eight bits that of %d is %v", s, c)
		}
	}
}

func TestCodesRefused(t *testing.T) {
	chain := []int{1, 2, 3, 4, 5, 6, 7, 8, 9, 10, 11, 12, 13, 14, 15}
	for name, c := range map[string]struct {
		lens []int
		want api.Errno
	}{
		"257 lengths":                     {make([]int, 257), api.ErrLong},
		"257 lengths, a wrong one":        {append(make([]int, 256), 16), api.ErrLong},
		"257 lengths that are not right":  {slices.Repeat([]int{1}, 257), api.ErrLong},
		"above MaxCode":                   {[]int{1, 16}, api.ErrArg},
		"below 0":                         {[]int{-1, 1}, api.ErrArg},
		"the last of 256":                 {append(make([]int, 255), 16), api.ErrArg},
		"the ends of what is":             {[]int{math.MaxInt, math.MinInt}, api.ErrArg},
		"as wide as a word":               {[]int{64}, api.ErrArg},
		"a wrong one, ahead of the sum":   {[]int{1, 1, 1, 16}, api.ErrArg},
		"below 0, ahead of the sum":       {[]int{1, 1, 1, -1}, api.ErrArg},
		"three of one bit":                {[]int{1, 1, 1}, api.ErrLimit},
		"just above 1, by the least part": {append(slices.Clone(chain), 15, 15), api.ErrLimit},
		"just above 1, the short ones in": {[]int{15, 1, 1}, api.ErrLimit},
		"255 of seven bits":               {slices.Repeat([]int{7}, 255), api.ErrLimit},
		"256 of one bit":                  {slices.Repeat([]int{1}, 256), api.ErrLimit},
	} {
		if codes, e := Codes(c.lens); e != c.want || codes != nil {
			t.Errorf("%s: %v, %d, want %d", name, codes, e, c.want)
		}
	}
}

func TestCodesByTheWords(t *testing.T) {
	r := rand.New(rand.NewSource(51))
	for range 2000 {
		lens := rightLengths(r, r.Intn(257))
		if codes, e := Codes(lens); e != api.OK || !slices.Equal(codes, plainCodes(lens)) {
			t.Fatalf("Codes(%v) = %v, %d", lens, codes, e)
		}
	}
	kinds := map[api.Errno]int{}
	for range 2000 {
		lens := make([]int, r.Intn(12))
		for i := range lens {
			lens[i] = r.Intn(6)
		}
		want, plain := api.OK, plainCodes(lens)
		if share(lens) > 1<<15 {
			want, plain = api.ErrLimit, nil
		}
		kinds[want]++
		if codes, e := Codes(lens); e != want || !slices.Equal(codes, plain) {
			t.Fatalf("Codes(%v) = %v, %d, want %v, %d", lens, codes, e, plain, want)
		}
	}
	if kinds[api.OK] < 300 || kinds[api.ErrLimit] < 300 {
		t.Errorf("not enough of each kind: %v", kinds)
	}
}

// What follows

func TestNoWordBeginsAnother(t *testing.T) {
	r := rand.New(rand.NewSource(52))
	for i := range 300 {
		lens := rightLengths(r, r.Intn(257))
		if i%2 == 0 {
			lens, _ = Lengths(someCounts(r, r.Intn(257)), 8+r.Intn(8))
		}
		codes, e := Codes(lens)
		if e != api.OK {
			t.Fatalf("Codes(%v): %d", lens, e)
		}
		for a, x := range codes {
			for b, y := range codes {
				if a == b || x.Len == 0 || y.Len < x.Len {
					continue
				}
				if y.Bits>>(y.Len-x.Len) == x.Bits {
					t.Fatalf("Codes(%v): the word of %d begins that of %d", lens, a, b)
				}
			}
		}
	}
}
