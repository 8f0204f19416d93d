package lz

import (
	"bytes"
	"math/rand"
	"slices"
	"strings"
	"testing"

	"winnow/api"
	"winnow/nums"
)

// plainPays is 'It pays', by the words of the document.
func plainPays(t api.Token) bool {
	return t.Len >= 3+len(nums.Put(int64(t.Dist)))
}

// plainMatch is the place's match, where these places ahead of i, from the first on, have the same four bytes; a zero token, if there is none.
func plainMatch(text string, i int, ahead []int) api.Token {
	var paying []api.Token
	looked := 0
	for _, j := range slices.Backward(ahead) {
		if i-j > 32768 || looked == 16 {
			break
		}
		looked++
		t := api.Token{Dist: i - j}
		for t.Len < 259 && i+t.Len < len(text) && text[j+t.Len] == text[i+t.Len] {
			t.Len++
		}
		if plainPays(t) {
			paying = append(paying, t)
		}
	}
	if len(paying) == 0 {
		return api.Token{}
	}
	slices.SortFunc(paying, func(a, b api.Token) int {
		if a.Len != b.Len {
			return b.Len - a.Len
		}
		return a.Dist - b.Dist
	})
	return paying[0]
}

// plainTokens are a text's own tokens, by the words of the document: all places with the same four bytes are kept, each by itself.
func plainTokens(text string) []api.Token {
	var ts []api.Token
	places := map[string][]int{}
	from, next := 0, 0
	for i := range len(text) {
		if i+4 > len(text) {
			break
		}
		word := text[i : i+4]
		if i == next {
			next++
			if t := plainMatch(text, i, places[word]); t.Len > 0 {
				t.Lit = []byte(text[from:i])
				ts = append(ts, t)
				next = i + t.Len
				from = next
			}
		}
		places[word] = append(places[word], i)
	}
	if from < len(text) {
		ts = append(ts, api.Token{Lit: []byte(text[from:])})
	}
	return ts
}

// short tells tokens in few letters.
func short(ts []api.Token) []api.Token {
	out := slices.Clone(ts[:min(len(ts), 8)])
	for i := range out {
		out[i].Lit = out[i].Lit[:min(len(out[i].Lit), 8)]
	}
	return out
}

// encodesAs holds what Encode writes of a text against its tokens, and that it is read again.
func encodesAs(t *testing.T, name, text string, want []api.Token) {
	t.Helper()
	b, e := Encode([]byte(text))
	if e != api.OK {
		t.Fatalf("%s: %d", name, e)
	}
	if ts, f := Tokens(b, len(text)); f != api.OK || !same(ts, want) {
		t.Fatalf("%s: %d tokens, %d, %v, want %d, %v", name, len(ts), f, short(ts), len(want), short(want))
	}
	if !bytes.Equal(b, plainBytes(want)) {
		t.Fatalf("%s: %.40x, want %.40x", name, b, plainBytes(want))
	}
	if got, f := Decode(b, len(text)); f != api.OK || string(got) != text {
		t.Fatalf("%s: %d bytes come back, %d", name, len(got), f)
	}
	if len(b) > Bound(len(text)) {
		t.Fatalf("%s: %d bytes of %d, at most %d are bound", name, len(b), len(text), Bound(len(text)))
	}
}

// filler has n bytes below 200 that no match is in.
func filler(n int) string {
	b := someBytes(rand.New(rand.NewSource(101)), n)
	for i := range b {
		b[i] %= 200
	}
	return string(b)
}

// key has n bytes, at most 56, none of which a filler has, each another one.
func key(n int) string {
	b := make([]byte, n)
	for i := range b {
		b[i] = byte(200 + i)
	}
	return string(b)
}

func TestFillerHasNoMatch(t *testing.T) {
	for _, n := range []int{1, 127, 128, 16383, 16384, 32768, 65536} {
		encodesAs(t, "a filler", filler(n), []api.Token{tok(filler(n), 0, 0)})
	}
}

func TestWhatPays(t *testing.T) {
	for _, c := range []struct {
		dist, length int
		pays         bool
	}{
		{4, 4, true}, {126, 4, true}, {127, 4, true}, {127, 5, true},
		{128, 4, false}, {128, 5, true}, {129, 4, false}, {129, 5, true}, {16382, 5, true}, {16383, 4, false}, {16383, 5, true},
		{16384, 4, false}, {16384, 5, false}, {16384, 6, true}, {16385, 5, false}, {16385, 6, true},
		{32767, 5, false}, {32767, 6, true}, {32768, 5, false}, {32768, 6, true}, {32768, 50, true},
		{32769, 6, false}, {32769, 50, false}, {40000, 50, false},
	} {
		k := key(c.length)
		ahead := k + filler(c.dist-c.length)
		for _, behind := range []string{"", "\xff", "\xff and more, that is new"} {
			text := ahead + k + behind
			want := []api.Token{tok(text, 0, 0)}
			if c.pays {
				want = []api.Token{{Lit: []byte(ahead), Dist: c.dist, Len: c.length}}
				if behind != "" {
					want = append(want, tok(behind, 0, 0))
				}
			}
			encodesAs(t, "what pays", text, want)
		}
	}
}

// A match of three bytes is none, however near.
func TestLessThanMinMatch(t *testing.T) {
	for _, text := range []string{"abcabc", "abcXabcY", "abcdeabc", "aaaa", "aaa", "a", "ababab"[:5]} {
		encodesAs(t, text, text, []api.Token{tok(text, 0, 0)})
	}
}

func TestRuns(t *testing.T) {
	for _, c := range []struct {
		n    int
		want []api.Token
	}{
		{1, []api.Token{tok("a", 0, 0)}},
		{4, []api.Token{tok("aaaa", 0, 0)}},
		{5, []api.Token{tok("a", 1, 4)}},
		{6, []api.Token{tok("a", 1, 5)}},
		{259, []api.Token{tok("a", 1, 258)}},
		{260, []api.Token{tok("a", 1, 259)}},
		{261, []api.Token{tok("a", 1, 259), tok("a", 0, 0)}},
		{263, []api.Token{tok("a", 1, 259), tok("aaa", 0, 0)}},
		{264, []api.Token{tok("a", 1, 259), tok("", 1, 4)}},
		{519, []api.Token{tok("a", 1, 259), tok("", 1, 259)}},
	} {
		encodesAs(t, "a run", strings.Repeat("a", c.n), c.want)
	}
	encodesAs(t, "two bytes", strings.Repeat("ab", 50), []api.Token{tok("ab", 2, 98)})
	encodesAs(t, "three bytes", strings.Repeat("abc", 50)+"b", []api.Token{tok("abc", 3, 147), tok("b", 0, 0)})
}

// A text that goes on as one ahead of it for more than MaxMatch bytes is told by two matches.
func TestGreatestMatch(t *testing.T) {
	for _, c := range []struct {
		alike int
		want  []api.Token
	}{
		{258, []api.Token{tok("", 1000, 258), tok("\xff", 0, 0)}},
		{259, []api.Token{tok("", 1000, 259), tok("\xff", 0, 0)}},
		{260, []api.Token{tok("", 1000, 259), {Lit: []byte(filler(260)[259:] + "\xff")}}},
		{264, []api.Token{tok("", 1000, 259), tok("", 1000, 5), tok("\xff", 0, 0)}},
	} {
		ahead := filler(1000)
		c.want[0].Lit = []byte(ahead)
		encodesAs(t, "the greatest match", ahead+ahead[:c.alike]+"\xff", c.want)
	}
}

func TestLongestAndNearest(t *testing.T) {
	for name, c := range map[string]struct {
		text string
		want []api.Token
	}{
		"of the same length the nearest": {
			"KLMN1KLMN2KLMN3",
			[]api.Token{tok("KLMN1", 5, 4), tok("2", 5, 4), tok("3", 0, 0)}},
		"the longest, though farther": {
			"KLMNOP1KLMN2KLMNOP3",
			[]api.Token{tok("KLMNOP1", 7, 4), tok("2", 12, 6), tok("3", 0, 0)}},
		"the longest, between two": {
			"KLMNO1KLMNOP2KLMN3KLMNOP4",
			[]api.Token{tok("KLMNO1", 6, 5), tok("P2", 7, 4), tok("3", 12, 6), tok("4", 0, 0)}},
		"as long as what is left, and no longer": {
			"KLMNOP1KLMN2KLMN",
			[]api.Token{tok("KLMNOP1", 7, 4), tok("2", 5, 4)}},
		"a place inside a match": {
			"abcdefghabcdefghdefgZ",
			[]api.Token{tok("abcdefgh", 8, 8), tok("", 5, 4), tok("Z", 0, 0)}},
		"a place at a match's last bytes": {
			"abcdefghabcdefghXfghXY",
			[]api.Token{tok("abcdefgh", 8, 8), tok("X", 4, 4), tok("Y", 0, 0)}},
		"the first place that has a match, not the best": {
			"abcd1bcdefghij2abcdefghij",
			[]api.Token{tok("abcd1bcdefghij2", 15, 4), tok("", 11, 6)}},
	} {
		encodesAs(t, name, c.text, c.want)
	}
}

// The longest one does not pay, but a shorter one that is nearer does; one byte more, and the longest is taken.
func TestNearestThatPays(t *testing.T) {
	for _, c := range []struct{ far, dist, length int }{{5, 20, 4}, {6, 17020, 6}} {
		far := key(c.far)
		ahead := far + filler(17000-c.far) + far[:4] + "0123456789abcdef"
		want := []api.Token{tok(ahead, c.dist, c.length), tok(far[c.length:]+"\xfe", 0, 0)}
		encodesAs(t, "the nearest that pays", ahead+far+"\xfe", want)
	}
}

// Only the nearest 16 places are looked at, though one behind them is longer.
func TestSixteenPlaces(t *testing.T) {
	for nearer := range 40 {
		var text strings.Builder
		text.WriteString("KLMNopqrstuv")
		for i := range nearer {
			text.WriteString("KLMN" + string([]byte{byte(200 + i)}))
		}
		at := text.Len()
		text.WriteString("KLMNopqrstuv")
		b, _ := Encode([]byte(text.String()))
		ts, e := Tokens(b, text.Len())
		if e != api.OK {
			t.Fatal(e)
		}
		want := []api.Token{{Dist: at, Len: 12}}
		if nearer > 15 {
			want = []api.Token{{Dist: 5, Len: 4}, {Dist: at, Len: 8}}
		}
		last := slices.Clone(ts[len(ts)-len(want):])
		last[0].Lit = nil
		if !same(last, want) {
			t.Errorf("%d places that are nearer: %v, want %v", nearer, short(last), want)
		}
		encodesAs(t, "sixteen places", text.String(), plainTokens(text.String()))
	}
}

// Places that share only their slot are not among the 16, and hide none of those that have the same bytes.
func TestOtherBytesOfTheSameSlot(t *testing.T) {
	r := rand.New(rand.NewSource(20))
	wanted := slot([]byte("KLMN"), 0)
	var others []string
	for len(others) < 300 {
		if b := someBytes(r, 4); slot(b, 0) == wanted && string(b) != "KLMN" {
			others = append(others, string(b))
		}
	}
	for _, count := range []int{1, 15, 16, 17, 300} {
		text := "KLMNopq" + strings.Join(others[:count], "") + "KLMNopqR"
		b, _ := Encode([]byte(text))
		ts, e := Tokens(b, len(text))
		if e != api.OK || len(ts) < 2 || ts[len(ts)-2].Len != 7 || ts[len(ts)-2].Dist != 7+4*count {
			t.Errorf("%d others: %v, %d", count, short(ts), e)
		}
		encodesAs(t, "the same slot", text, plainTokens(text))
	}
	mixed := ""
	for range 4000 {
		mixed += others[r.Intn(40)]
	}
	encodesAs(t, "many of the same slot", mixed, plainTokens(mixed))
}

func TestEncodeOfLongTexts(t *testing.T) {
	for _, n := range []int{65537, 65538, 1 << 20} {
		if b, e := Encode(make([]byte, n)); e != api.ErrLong || len(b) != 0 {
			t.Errorf("Encode of %d bytes = %d bytes, %d", n, len(b), e)
		}
	}
	whole := filler(65536)
	encodesAs(t, "MaxBlock bytes", whole, []api.Token{tok(whole, 0, 0)})
	end := filler(65532-4) + key(4) + key(4)
	encodesAs(t, "a match at the very end", end, []api.Token{tok(end[:65532], 4, 4)})
}

// wordy is a text of words, as jobs have it.
func wordy(r *rand.Rand, n, words int) string {
	list := make([]string, words)
	for i := range list {
		list[i] = string(letters(r, 1+r.Intn(12), 26)) + " \n,;"[r.Intn(4):][:1]
	}
	var text strings.Builder
	for text.Len() < n {
		text.WriteString(list[min(r.Intn(words), r.Intn(words))])
	}
	return text.String()[:n]
}

// again is a text that says pieces of itself once more, from all distances, with mistakes.
func again(r *rand.Rand, n int) string {
	text := someBytes(r, 50)
	for len(text) < n {
		back := 1 + r.Intn(len(text))
		if r.Intn(3) == 0 {
			back = min(len(text), []int{127, 128, 16383, 16384, 32767, 32768, 32769}[r.Intn(7)])
		}
		for range 3 + r.Intn(1+r.Intn(300)) {
			text = append(text, text[len(text)-back])
		}
		text = append(text, someBytes(r, r.Intn(1+r.Intn(2000)))...)
	}
	return string(text[:n])
}

func TestEncodeAgainstThePlainOne(t *testing.T) {
	r := rand.New(rand.NewSource(21))
	for range 3000 {
		n := r.Intn(200)
		kinds := 1 + r.Intn(5)
		text := string(letters(r, n, kinds))
		encodesAs(t, "a few letters", text, plainTokens(text))
	}
	for range 60 {
		n := r.Intn(65537)
		for name, text := range map[string]string{"letters": string(letters(r, n, 1+r.Intn(5))), "any bytes": string(someBytes(r, n)), "words": wordy(r, n, 10+r.Intn(3000)), "again": again(r, n)} {
			encodesAs(t, name, text, plainTokens(text))
		}
	}
	for _, period := range []int{1, 2, 3, 4, 5, 258, 259, 260, 32767, 32768, 32769} {
		text := strings.Repeat(string(someBytes(r, period)), 65536/period+1)[:65536]
		encodesAs(t, "a period", text, plainTokens(text))
	}
}

// All texts of a few bytes of two kinds.
func TestAllShortTexts(t *testing.T) {
	for n := range 14 {
		for bits := range 1 << n {
			text := make([]byte, n)
			for i := range text {
				text[i] = byte('a' + bits>>i&1)
			}
			encodesAs(t, string(text), string(text), plainTokens(string(text)))
		}
	}
}

// One text is told as if none had been told ahead of it.
func TestEncodeKeepsNothing(t *testing.T) {
	text := []byte("KLMNopqrstuv")
	want, _ := Encode(text)
	Encode(bytes.Repeat(text, 5000))
	if got, _ := Encode(text); !bytes.Equal(got, want) {
		t.Errorf("%x, and later %x", want, got)
	}
}

// 3.6: Lits of all lengths of numbers, with matches between them that just pay

func TestEncodeWithinBound(t *testing.T) {
	r := rand.New(rand.NewSource(22))
	sizes := []int{1, 5, 126, 127, 128, 129, 130, 1000, 16383, 16384, 16385}
	for range 120 {
		var text []byte
		n := 1 + r.Intn(65536)
		few := sizes[:1+r.Intn(len(sizes))]
		for len(text) < n {
			text = append(text, someBytes(r, few[len(few)-1-min(r.Intn(len(few)), r.Intn(len(few)))])...)
			dist := 1 + r.Intn(min(len(text), 32768))
			if r.Intn(2) == 0 {
				dist = min(len(text), []int{4, 127, 128, 16383, 16384}[r.Intn(5)])
			}
			for range 3 + len(nums.Put(int64(dist))) {
				text = append(text, text[len(text)-dist])
			}
		}
		text = text[:n]
		encodesAs(t, "matches that just pay", string(text), plainTokens(string(text)))
	}
}

// The bound is met: by a text without a match up to 16383 bytes, and by three long Lits.
func TestBoundIsMet(t *testing.T) {
	for _, n := range []int{1, 2, 126, 127, 128, 129, 16382, 16383} {
		if b, e := Encode([]byte(filler(n))); e != api.OK || len(b) != Bound(n) {
			t.Errorf("%d bytes of %d, %d, want %d", len(b), n, e, Bound(n))
		}
	}
	r := rand.New(rand.NewSource(23))
	var text []byte
	for range 2 {
		text = append(text, someBytes(r, 16384)...)
		text = append(text, text[len(text)-8:][:4]...)
	}
	text = append(text, someBytes(r, 16384)...)
	b, e := Encode(text)
	if e != api.OK || len(b) != Bound(len(text)) {
		t.Errorf("%d bytes of %d, %d, want %d", len(b), len(text), e, Bound(len(text)))
	}
}

// 'What follows': n times one byte

func TestOneByteManyTimes(t *testing.T) {
	lengths := []int{65535, 65536}
	for n := range 1200 {
		lengths = append(lengths, n, 54*n)
	}
	for _, n := range lengths {
		text := bytes.Repeat([]byte{byte(n)}, n)
		b, e := Encode(text)
		if e != api.OK || len(b) > 12+n/32 {
			t.Fatalf("%d times one byte: %d bytes, %d", n, len(b), e)
		}
		if again, f := Decode(b, n); f != api.OK || !bytes.Equal(again, text) {
			t.Fatalf("%d times one byte: %d come back, %d", n, len(again), f)
		}
	}
}
