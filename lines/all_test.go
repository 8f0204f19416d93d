package lines

import (
	"math"
	"math/rand"
	"strings"
	"testing"

	"winnow/api"
)

// 13.5

func TestAllExamples(t *testing.T) {
	for _, c := range []struct {
		split api.Split
		want  []placed
	}{
		{api.Split{}, nil},
		{api.Split{Offset: 9}, nil},
		{api.Split{Text: "\n"}, []placed{{0, ""}}},
		{api.Split{Offset: 100, Text: "a\n\nbc\nd"}, []placed{{100, "a"}, {102, ""}, {103, "bc"}, {106, "d"}}},
		{api.Split{Offset: 3, Text: "cd\n"}, []placed{{3, "cd"}}},
		{api.Split{Offset: 1 << 40, Text: "é\r\né"}, []placed{{1 << 40, "é\r"}, {1<<40 + 4, "é"}}},
		{api.Split{Offset: -3, Text: "a\nb\nc"}, []placed{{-3, "a"}, {-1, "b"}, {1, "c"}}},
		{api.Split{Offset: math.MinInt64, Text: "a\nb"}, []placed{{math.MinInt64, "a"}, {math.MinInt64 + 2, "b"}}},
		{api.Split{Offset: math.MaxInt64 - 2, Text: "a\nb\nc"}, []placed{{math.MaxInt64 - 2, "a"}, {math.MaxInt64, "b"}, {math.MinInt64 + 1, "c"}}},
		{api.Split{Offset: math.MaxInt64, Text: "\n\n"}, []placed{{math.MaxInt64, ""}, {math.MinInt64, ""}}},
	} {
		isSame(t, "All", through(All(c.split)), c.want)
	}
}

func TestAll(t *testing.T) {
	offsets := []int64{0, 1, -1, -2, 1 << 31, 1<<32 - 1, math.MaxInt64, math.MaxInt64 - 1, math.MaxInt64 - 2, math.MaxInt64 - 100, math.MinInt64, math.MinInt64 + 1}
	for _, text := range append(short(5), odd()...) {
		for _, offset := range offsets {
			s := api.Split{Offset: offset, Text: text}
			isSame(t, "All of "+text, through(All(s)), plainAll(s))
		}
	}
	random := rand.New(rand.NewSource(135))
	for range 1000 {
		s := api.Split{Offset: int64(random.Uint64()), Text: randomText(random, 300)}
		isSame(t, "All of "+s.Text, through(All(s)), plainAll(s))
		isSame(t, "its lines", linesOf(through(All(s))), Lines(s.Text))
	}
}

// A split made by hand may be above MaxSplit, and above MaxText.
func TestAllOfLongTexts(t *testing.T) {
	s := api.Split{Offset: 5, Text: rows(api.MaxText/1024+1, 1024)}
	isSame(t, "All", through(All(s)), plainAll(s))
	line := strings.Repeat("x", api.MaxText+1)
	isSame(t, "one line", through(All(api.Split{Text: line})), []placed{{0, line}})
}

// Each going through begins anew, one that was left early too, and so does one within another.
func TestAllBeginsAnew(t *testing.T) {
	for _, text := range append(short(4), odd()...) {
		s := api.Split{Offset: math.MaxInt64 - 1, Text: text}
		want := plainAll(s)
		seq := All(s)
		for range 3 {
			isSame(t, "once more", through(seq), want)
		}
		for range seq {
			break
		}
		isSame(t, "behind one that was left", through(seq), want)
		count := 0
		for at, line := range seq {
			isSame(t, "within itself", through(seq), want)
			if (placed{at, line}) != want[count] {
				t.Fatalf("around itself: %d %q, and not %v", at, line, want[count])
			}
			count++
		}
		if count != len(want) {
			t.Fatalf("around itself: %d lines, and not %d", count, len(want))
		}
	}
}

// Who stops is given no more, wherever it is.
func TestAllLeftEarly(t *testing.T) {
	for _, text := range append(short(5), odd()...) {
		s := api.Split{Offset: 7, Text: text}
		want := plainAll(s)
		for stop := range want {
			var got []placed
			All(s)(func(at int64, line string) bool {
				got = append(got, placed{at, line})
				return len(got) <= stop
			})
			isSame(t, "up to the stop", got, want[:stop+1])
		}
	}
}

// Two goings through, step by step beside each other.
func TestAllTwiceAtOneTime(t *testing.T) {
	s := api.Split{Offset: 1, Text: "a\n\nbc\nd"}
	seq := All(s)
	steps := make(chan placed)
	go func() {
		defer close(steps)
		for at, line := range seq {
			steps <- placed{at, line}
		}
	}()
	for at, line := range seq {
		if other := <-steps; other != (placed{at, line}) {
			t.Errorf("%v beside %d %q", other, at, line)
		}
	}
	if _, more := <-steps; more {
		t.Error("one gives more than the other")
	}
}

// An iterator of nothing is one, too.
func TestAllIsNeverNil(t *testing.T) {
	if All(api.Split{}) == nil || All(api.Split{Offset: -1}) == nil {
		t.Error("no iterator")
	}
}
