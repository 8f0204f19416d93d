package lines

import (
	"math/rand"
	"strings"
	"testing"

	"winnow/api"
)

// 13.2

func TestLinesOfExamples(t *testing.T) {
	for _, c := range []struct {
		text string
		want []string
	}{
		{"a\n\nb", []string{"a", "", "b"}},
		{"", nil},
		{"\n", []string{""}},
		{"a\r\n", []string{"a\r"}},
		{"a", []string{"a"}},
		{"a\n", []string{"a"}},
		{"\n\n", []string{"", ""}},
		{"\na", []string{"", "a"}},
		{"a\n\n", []string{"a", ""}},
		{"\r\n\r", []string{"\r", "\r"}},
		{"\xff\n\xc3\n\xe2\x80", []string{"\xff", "\xc3", "\xe2\x80"}},
		{"\xc0\x8a\n\u010a\u2028", []string{"\xc0\x8a", "\u010a\u2028"}},
	} {
		isSame(t, "Lines of "+c.text, Lines(c.text), c.want)
	}
}

func TestLines(t *testing.T) {
	for _, text := range append(short(7), odd()...) {
		isSame(t, "Lines of "+text, Lines(text), plainLines(text))
	}
	random := rand.New(rand.NewSource(132))
	for range 3000 {
		text := randomText(random, 300)
		isSame(t, "Lines of "+text, Lines(text), plainLines(text))
	}
}

// Each byte but the line feed is one like others, alone and among others.
func TestLinesOfEachByte(t *testing.T) {
	for b := range 256 {
		one := string([]byte{byte(b)})
		for _, text := range []string{one, "a" + one + "b", "\n" + one + "\n", one + "\n\x80" + one, "\xc3" + one, "\xe2\x80" + one} {
			got := Lines(text)
			isSame(t, "Lines of "+text, got, plainLines(text))
			if feeds := strings.Count(text, "\n"); b != 10 && !strings.HasSuffix(text, "\n") && len(got) != feeds+1 {
				t.Fatalf("%d lines of %q", len(got), text)
			}
		}
	}
}

// A text's length has no bound here, and neither has a line's.
func TestLinesOfLongTexts(t *testing.T) {
	long := strings.Repeat("x", api.MaxText+7)
	isSame(t, "one line", Lines(long), []string{long})
	isSame(t, "two lines", Lines(long+"\n"+long+"\n"), []string{long, long})
	got := Lines(strings.Repeat("\n", api.MaxText+7))
	if len(got) != api.MaxText+7 || got[0] != "" || got[api.MaxText+6] != "" {
		t.Errorf("%d lines", len(got))
	}
}

// 13.3

func TestOfExamples(t *testing.T) {
	for _, c := range []struct {
		text     string
		from, to int
		want     []string
	}{
		{"ab\ncd\n", 0, 3, []string{"ab"}},
		{"ab\ncd\n", 1, 3, nil},
		{"ab\ncd\n", 3, 4, []string{"cd"}},
		{"ab\ncd\n", 2, 3, nil},
		{"a\n\nb", 2, 3, []string{""}},
		{"ab\ncd\n", 0, 1, []string{"ab"}},
		{"ab\ncd\n", 0, 0, nil},
		{"ab\ncd\n", 3, 3, nil},
		{"ab\ncd\n", 6, 6, nil},
		{"ab\ncd\n", 4, 6, nil},
		{"ab\ncd\n", 0, 6, []string{"ab", "cd"}},
		{"ab\ncd", 3, 5, []string{"cd"}},
		{"ab\ncd", 2, 4, []string{"cd"}},
		{"ab\ncd", 4, 5, nil},
		{"", 0, 0, nil},
		{"\n", 0, 1, []string{""}},
		{"\n", 1, 1, nil},
		{"\n\n", 1, 2, []string{""}},
		{"a\r\nb", 1, 3, nil},
		{"é\né", 1, 3, nil},
		{"é\né", 1, 4, []string{"é"}},
	} {
		isSame(t, "Of "+c.text, of(t, c.text, c.from, c.to), c.want)
	}
}

// Each piece of each short text.
func TestOf(t *testing.T) {
	for _, text := range append(short(6), odd()...) {
		for to := range len(text) + 1 {
			for from := range to + 1 {
				isSame(t, "Of "+text, of(t, text, from, to), plainOf(text, api.Piece{From: from, To: to}))
			}
		}
	}
	random := rand.New(rand.NewSource(133))
	for range 3000 {
		text := randomText(random, 300)
		to := random.Intn(len(text) + 1)
		from := random.Intn(to + 1)
		isSame(t, "Of "+text, of(t, text, from, to), plainOf(text, api.Piece{From: from, To: to}))
	}
}

// noPieces are no pieces of a text of n bytes.
func noPieces(n int) []api.Piece {
	const least, greatest = -1 << 63, 1<<63 - 1
	return []api.Piece{
		{From: -1, To: n}, {From: -1, To: -1}, {From: -1, To: 0}, {From: least, To: n}, {From: least, To: least},
		{From: 0, To: n + 1}, {From: n + 1, To: n + 1}, {From: n, To: n + 1}, {From: 0, To: greatest}, {From: greatest, To: greatest},
		{From: 1, To: 0}, {From: n + 1, To: n}, {From: n, To: n - 1}, {From: 0, To: -1}, {From: 0, To: least}, {From: greatest, To: least}, {From: least, To: greatest},
	}
}

func TestOfNoPiece(t *testing.T) {
	for _, text := range []string{"", "\n", "a", "ab\ncd\n", "ab\ncd", rows(api.MaxText/64, 64)} {
		for _, p := range noPieces(len(text)) {
			list, err := Of(text, p)
			isError(t, "no piece", err, api.ErrArg)
			isSame(t, "no piece", list, nil)
		}
	}
}

// A text of MaxText bytes is taken, one of a byte more is not, whatever the piece.
func TestOfLongTexts(t *testing.T) {
	const n = api.MaxText
	text := rows(n/64, 64)
	if got := of(t, text, 0, n); len(got) != n/64 {
		t.Errorf("%d lines", len(got))
	}
	isSame(t, "the last line", of(t, text, n-64, n), []string{text[:63]})
	for _, more := range []string{"\n", "a", "ab"} {
		long := text + more
		for _, p := range append(noPieces(len(long)), api.Piece{}, api.Piece{To: 1}, api.Piece{To: n}, api.Piece{To: n + 1}) {
			list, err := Of(long, p)
			isError(t, "a text too long", err, api.ErrLong)
			isSame(t, "a text too long", list, nil)
		}
	}
}

// A line is whole, however far beyond its piece it goes.
func TestOfLongLine(t *testing.T) {
	line := strings.Repeat("x", api.MaxText-4)
	text := "a\n" + line + "\nb"
	isSame(t, "the line", of(t, text, 2, 3), []string{line})
	isSame(t, "the line", of(t, text, 1, api.MaxText-2), []string{line})
	isSame(t, "behind its beginning", of(t, text, 3, api.MaxText-1), nil)
	isSame(t, "behind its line feed", of(t, text, 3, api.MaxText), []string{"b"})
}

// What follows

func TestLinesJoined(t *testing.T) {
	random := rand.New(rand.NewSource(1321))
	texts := append(short(6), odd()...)
	for range 500 {
		texts = append(texts, randomText(random, 300))
	}
	for _, text := range texts {
		joined := ""
		for _, line := range Lines(text) {
			if strings.Contains(line, "\n") {
				t.Fatalf("a line feed in a line of %q", text)
			}
			joined += line + "\n"
		}
		want := text
		if text != "" && !strings.HasSuffix(text, "\n") {
			want += "\n"
		}
		if joined != want {
			t.Fatalf("%q, and not %q", joined, want)
		}
	}
}

func TestPiecesThatTouch(t *testing.T) {
	for _, text := range append(short(5), odd()...) {
		for to := range len(text) + 1 {
			for from := range to + 1 {
				whole := of(t, text, from, to)
				for middle := from; middle <= to; middle++ {
					isSame(t, "both of "+text, append(of(t, text, from, middle), of(t, text, middle, to)...), whole)
				}
			}
		}
	}
}
