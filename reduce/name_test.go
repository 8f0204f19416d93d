package reduce

import (
	"math"
	"strings"
	"testing"
)

// 18.1

func TestNames(t *testing.T) {
	for _, c := range []struct {
		out           string
		task, attempt int
		want          string
	}{
		{"wc", 3, 0, "wc.r3.0"},
		{"wc", 0, 0, "wc.r0.0"},
		{"wc", 0, 3, "wc.r0.3"},
		{"o", 3, 12, "o.r3.12"},
		{"wc", 10, 205, "wc.r10.205"},
		{"wc", 65534, 16, "wc.r65534.16"},
		{"wc", 65535, 9999, "wc.r65535.9999"},
		{"a-b.c", 1, 2, "a-b.c.r1.2"},
		{"", 1, 2, ".r1.2"},
		{"W\n\x00\xff é", 1, 2, "W\n\x00\xff é.r1.2"},
		{"%d", 1, 2, "%d.r1.2"},
		{"wc", math.MaxInt, math.MaxInt, "wc.r9223372036854775807.9223372036854775807"},
		{"wc", 0, math.MaxInt, "wc.r0.9223372036854775807"},
		{strings.Repeat("long", 100), 1, 2, strings.Repeat("long", 100) + ".r1.2"},
	} {
		if got := Name(c.out, c.task, c.attempt); got != c.want {
			t.Errorf("Name(%q, %d, %d): %q, and not %q", c.out, c.task, c.attempt, got, c.want)
		}
	}
}

func TestNoNames(t *testing.T) {
	below := []int{-1, -2, -10, math.MinInt32, math.MinInt}
	for _, out := range []string{"", "wc", "W"} {
		for _, n := range below {
			for _, other := range append([]int{0, 1, 255, math.MaxInt}, below...) {
				if a, b := Name(out, n, other), Name(out, other, n); a != "" || b != "" {
					t.Errorf("of %d and %d: %q and %q", n, other, a, b)
				}
			}
		}
	}
}
