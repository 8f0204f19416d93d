package merge

import (
	"iter"
	"strings"

	"winnow/api"
)

// gatherer gathers the values of a run of neighbours with one key.
type gatherer struct {
	yield  func(string, []string) bool
	key    string
	values []string
	left   bool // no more runs are wanted
}

// Groups tells neighbours of one key together.
func Groups(pairs iter.Seq[api.Pair]) iter.Seq2[string, []string] {
	return func(yield func(string, []string) bool) {
		if pairs == nil {
			return
		}
		g := &gatherer{yield: yield}
		// Called, and not ranged over: an iterator that goes on where it was left would make a range panic.
		pairs(g.take)
		g.handOn()
	}
}

// take takes the next pair, and tells whether more are wanted.
func (g *gatherer) take(p api.Pair) bool {
	if p.Key != g.key {
		g.handOn()
	}
	if g.left {
		return false
	}
	if len(g.values) == 0 {
		g.key = strings.Clone(p.Key)
	}
	g.values = append(g.values, strings.Clone(p.Value))
	return true
}

// handOn hands the run on, if there is one, and has none any more.
func (g *gatherer) handOn() {
	if len(g.values) == 0 {
		return
	}
	values := g.values
	g.values = nil
	g.left = !g.yield(g.key, values)
}
