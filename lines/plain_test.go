package lines

import (
	"fmt"
	"iter"
	"math"
	"math/big"
	"math/rand"
	"slices"
	"strings"
	"testing"

	"winnow/api"
)

// The calls have these signatures, to the letter.
var (
	_ func(int, []int) ([]api.Piece, api.Errno)     = Cut
	_ func(string) []string                         = Lines
	_ func(string, api.Piece) ([]string, api.Errno) = Of
	_ func(string, []int) ([]api.Split, api.Errno)  = Splits
	_ func(api.Split) iter.Seq2[int64, string]      = All
)

// placed is a line with its place.
type placed struct {
	at   int64
	line string
}

// plainPlaced goes by the section 'Words', byte by byte: a line begins where the text begins and behind each line feed, if there is a byte.
func plainPlaced(text string) []placed {
	var list []placed
	for at := 0; at < len(text); at++ {
		if at > 0 && text[at-1] != 10 {
			continue
		}
		end := at
		for end < len(text) && text[end] != 10 {
			end++
		}
		list = append(list, placed{int64(at), text[at:end]})
	}
	return list
}

func plainLines(text string) []string {
	return linesOf(plainPlaced(text))
}

func linesOf(list []placed) []string {
	var lines []string
	for _, l := range list {
		lines = append(lines, l.line)
	}
	return lines
}

// plainOf goes by the words of 13.3: of all lines those with From <= place < To.
func plainOf(text string, p api.Piece) []string {
	var lines []string
	for _, l := range plainPlaced(text) {
		if int64(p.From) <= l.at && l.at < int64(p.To) {
			lines = append(lines, l.line)
		}
	}
	return lines
}

// plainPlace goes by the words of 13.1, with numbers without bound.
func plainPlace(n, place int) int {
	whole := new(big.Int).Add(big.NewInt(int64(n)), big.NewInt(1))
	return int(new(big.Int).Mod(big.NewInt(int64(place)), whole).Int64())
}

// plainCut goes by the words of 13.1: each piece ends at the least place that is left, the last one at n.
func plainCut(n int, places []int) []api.Piece {
	var left []int
	for _, place := range places {
		left = append(left, plainPlace(n, place))
	}
	var pieces []api.Piece
	from := 0
	for len(left) > 0 {
		least := 0
		for i := range left {
			if left[i] < left[least] {
				least = i
			}
		}
		pieces = append(pieces, api.Piece{From: from, To: left[least]})
		from = left[least]
		left = append(left[:least], left[least+1:]...)
	}
	return append(pieces, api.Piece{From: from, To: n})
}

// plainSplits goes by the words of 13.4, line by line; false: one of the texts is too long.
func plainSplits(text string, places []int) ([]api.Split, bool) {
	var splits []api.Split
	for _, p := range plainCut(len(text), places) {
		s := api.Split{Offset: int64(p.From)}
		some := false
		for _, l := range plainPlaced(text) {
			if l.at < int64(p.From) || l.at >= int64(p.To) {
				continue
			}
			if !some {
				s.Offset, some = l.at, true
			}
			s.Text += l.line
			if end := int(l.at) + len(l.line); end < len(text) {
				s.Text += text[end : end+1]
			}
		}
		if len(s.Text) > 65536 {
			return nil, false
		}
		splits = append(splits, s)
	}
	return splits, true
}

// plainAll goes by the words of 13.5, with numbers without bound.
func plainAll(s api.Split) []placed {
	list := plainPlaced(s.Text)
	for i, l := range list {
		sum := new(big.Int).Add(big.NewInt(s.Offset), big.NewInt(l.at))
		if sum.Cmp(big.NewInt(math.MaxInt64)) > 0 {
			sum.Sub(sum, new(big.Int).Lsh(big.NewInt(1), 64))
		}
		list[i].at = sum.Int64()
	}
	return list
}

// through tells what an iterator gives.
func through(seq iter.Seq2[int64, string]) []placed {
	var list []placed
	for at, line := range seq {
		list = append(list, placed{at, line})
	}
	return list
}

func isSame[T comparable](t *testing.T, what string, got, want []T) {
	t.Helper()
	if !slices.Equal(got, want) {
		t.Fatalf("%.200q: %s, and not %s", what, written(got), written(want))
	}
}

// written tells a list's beginning as Go writes it, so that each byte is seen.
func written(list any) string {
	return fmt.Sprintf("%.300s", fmt.Sprintf("%#v", list))
}

func isError(t *testing.T, what string, got, want api.Errno) {
	t.Helper()
	if got != want {
		t.Fatalf("%s: error %d, and not %d", what, got, want)
	}
}

func cuts(t *testing.T, n int, places ...int) []api.Piece {
	t.Helper()
	pieces, err := Cut(n, places)
	isError(t, "Cut", err, api.OK)
	return pieces
}

func of(t *testing.T, text string, from, to int) []string {
	t.Helper()
	list, err := Of(text, api.Piece{From: from, To: to})
	isError(t, "Of", err, api.OK)
	return list
}

func splits(t *testing.T, text string, places ...int) []api.Split {
	t.Helper()
	list, err := Splits(text, places)
	isError(t, "Splits", err, api.OK)
	return list
}

// short tells all texts of up to most bytes of a line feed, a letter, a byte 13, and a byte that begins a longer rune.
func short(most int) []string {
	texts := []string{""}
	for from := 0; most > 0; most-- {
		to := len(texts)
		for _, text := range texts[from:to] {
			for _, b := range []string{"\n", "a", "\r", "\xc3"} {
				texts = append(texts, text+b)
			}
		}
		from = to
	}
	return texts
}

// odd are texts with bytes that may be taken for something else: ends of lines elsewhere, runes cut off, ones told too long, zeros.
func odd() []string {
	return []string{
		"\r", "\r\n", "\n\r", "\r\r\n\n", "\v\n\f", "\x00\n\x00", "\x00",
		"\u0085\n\u2028\n\u2029", "\u010a\u0a0a\n", "\U0001000a\n\U000a000a",
		"\xff\n\xc3\n", "\xe2\n\x80\n\xa8", "\xe2\x80\n", "\xf0\x9f\x98\n\x80\n", "\xf0\n\n\n",
		"\xc0\x8a\n", "\xe0\x80\x8a", "\x8a\n\x8a", "\xed\xa0\x80\n", "\xfe\n\xff",
		"\ufeffa\n\ufffd\n", "é\nü\n日本\n",
	}
}

// randomText tells some bytes, of which some are line feeds.
func randomText(random *rand.Rand, most int) string {
	b := make([]byte, random.Intn(most+1))
	seldom := 1 + random.Intn(20)
	for i := range b {
		b[i] = byte(random.Intn(256))
		if random.Intn(seldom) == 0 {
			b[i] = 10
		}
	}
	return string(b)
}

// randomPlaces tells places in the text and far out of it.
func randomPlaces(random *rand.Rand, n, most int) []int {
	places := make([]int, random.Intn(most+1))
	for i := range places {
		switch random.Intn(4) {
		case 0:
			places[i] = int(random.Uint64())
		case 1:
			places[i] = random.Intn(4*n+9) - 2*n - 4
		default:
			places[i] = random.Intn(n + 1)
		}
	}
	return places
}

// rows tells a text of count lines, each of length bytes with its line feed.
func rows(count, length int) string {
	return strings.Repeat(strings.Repeat("r", length-1)+"\n", count)
}
