package maptask

import (
	"math"
	"strings"
	"testing"
)

// 17.1

func TestNames(t *testing.T) {
	for _, c := range []struct {
		out           string
		task, attempt int
		want          string
	}{
		{"wc", 3, 0, "wc.m3.0"},
		{"wc", 0, 0, "wc.m0.0"},
		{"wc", 0, 3, "wc.m0.3"},
		{"wc", 10, 205, "wc.m10.205"},
		{"wc", 255, 16, "wc.m255.16"},
		{"wc", 256, 9999, "wc.m256.9999"},
		{"a-b.c", 1, 2, "a-b.c.m1.2"},
		{"", 1, 2, ".m1.2"},
		{"W\n\x00\xff é", 1, 2, "W\n\x00\xff é.m1.2"},
		{"%d", 1, 2, "%d.m1.2"},
		{"wc", math.MaxInt, math.MaxInt, "wc.m9223372036854775807.9223372036854775807"},
		{"wc", 0, math.MaxInt, "wc.m0.9223372036854775807"},
		{strings.Repeat("long", 100), 1, 2, strings.Repeat("long", 100) + ".m1.2"},
	} {
		if got := Name(c.out, c.task, c.attempt); got != c.want {
			t.Errorf("Name(%q, %d, %d): %q, and not %q", c.out, c.task, c.attempt, got, c.want)
		}
	}
}

func TestNoNames(t *testing.T) {
	below := []int{-1, -2, -10, math.MinInt32, math.MinInt}
	for _, out := range []string{"", "wc", "W"} {
		for _, n := range below {
			for _, other := range append([]int{0, 1, 255, math.MaxInt}, below...) {
				if a, b := Name(out, n, other), Name(out, other, n); a != "" || b != "" {
					t.Errorf("of %d and %d: %q and %q", n, other, a, b)
				}
			}
		}
	}
}
