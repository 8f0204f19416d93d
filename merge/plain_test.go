package merge

import (
	"fmt"
	"iter"
	"math/rand"
	"slices"
	"testing"

	"winnow/api"
)

// The calls have these signatures, to the letter.
var (
	_ func(func(a, b int) int, ...func() (int, bool, api.Errno)) (*Merge[int], api.Errno) = New[int]
	_ func(*Merge[int]) (int, bool, api.Errno)                                            = (*Merge[int]).Next
	_ func(*Merge[int]) iter.Seq[int]                                                     = (*Merge[int]).All
	_ func(*Merge[int]) api.Errno                                                         = (*Merge[int]).Err
	_ func([][]api.Record) ([]api.Record, api.Errno)                                      = Records
	_ func(iter.Seq[api.Pair]) iter.Seq2[string, []string]                                = Groups
)

// thing has a number, by which it is compared, and tells which source's it is, and which one of that.
type thing struct {
	n, of, at int
}

func byNumber(a, b thing) int {
	return a.n - b.n
}

// answer is what a source or Next answers.
type answer struct {
	thing thing
	some  bool
	err   api.Errno
}

// hand is some sources with their answers, and who of them was asked, in order.
type hand struct {
	scripts [][]answer
	at      []int
	asked   []int
}

func deal(scripts [][]answer) *hand {
	return &hand{scripts: scripts, at: make([]int, len(scripts))}
}

// ask tells the next answer of a source; behind its last one something that no test expects.
func (h *hand) ask(i int) answer {
	h.asked = append(h.asked, i)
	if h.at[i] >= len(h.scripts[i]) {
		return answer{thing: thing{n: -999, of: i, at: -1}, some: true}
	}
	h.at[i]++
	return h.scripts[i][h.at[i]-1]
}

func (h *hand) source(i int) func() (thing, bool, api.Errno) {
	return func() (thing, bool, api.Errno) {
		a := h.ask(i)
		return a.thing, a.some, a.err
	}
}

func (h *hand) sources() []func() (thing, bool, api.Errno) {
	var from []func() (thing, bool, api.Errno)
	for i := range h.scripts {
		from = append(from, h.source(i))
	}
	return from
}

// merge makes a merge of all sources.
func (h *hand) merge(t *testing.T) *Merge[thing] {
	t.Helper()
	return makes(t, byNumber, h.sources()...)
}

func makes[T any](t *testing.T, compare func(a, b T) int, from ...func() (T, bool, api.Errno)) *Merge[T] {
	t.Helper()
	m, err := New(compare, from...)
	if err != api.OK || m == nil {
		t.Fatalf("New of %d sources: %d", len(from), err)
	}
	return m
}

// plain goes by the words of 11.2, step by step, over any number of sources.
type plain struct {
	hand   *hand
	things []thing
	have   []bool
	last   int // the source of the thing that was told last, or -1
	over   bool
	err    api.Errno
}

func newPlain(scripts [][]answer) *plain {
	return &plain{hand: deal(scripts), things: make([]thing, len(scripts)), have: make([]bool, len(scripts)), last: -1}
}

func (p *plain) next() answer {
	if p.over {
		return answer{err: p.err}
	}
	var due []int
	for i := range p.things {
		if p.last < 0 || p.last == i {
			due = append(due, i)
		}
	}
	for _, i := range due {
		a := p.hand.ask(i)
		if a.err == api.OK && a.some && p.have[i] && a.thing.n < p.things[i].n {
			a.err = api.ErrOrder
		}
		if a.err != api.OK {
			p.over, p.err = true, a.err
			return answer{err: a.err}
		}
		p.things[i], p.have[i] = a.thing, a.some
	}
	first := -1
	for i := range p.things {
		if p.have[i] && (first < 0 || p.things[i].n < p.things[first].n) {
			first = i
		}
	}
	if first < 0 {
		p.over = true
		return answer{}
	}
	p.last = first
	return answer{thing: p.things[first], some: true}
}

// follows holds each Next of a merge, some behind the end too, against the plain one, with who was asked for it.
func follows(t *testing.T, m *Merge[thing], h *hand, p *plain) {
	t.Helper()
	if len(h.asked) != 0 {
		t.Fatalf("ahead of Next %v were asked", h.asked)
	}
	for beyond := 0; beyond < 3; {
		was := len(h.asked)
		n, some, err := m.Next()
		got, want := answer{n, some, err}, p.next()
		if got != want {
			t.Fatalf("Next: %v, and not %v, of %v", got, want, h.scripts)
		}
		if !slices.Equal(h.asked, p.hand.asked) {
			t.Fatalf("for %v %v were asked, and not %v", got, h.asked[was:], p.hand.asked[min(was, len(p.hand.asked)):])
		}
		if m.Err() != p.err {
			t.Fatalf("behind %v Err is %d, and not %d", got, m.Err(), p.err)
		}
		if p.over {
			beyond++
		}
	}
}

// told goes on with Next to the end.
func told(t *testing.T, m *Merge[thing]) ([]thing, api.Errno) {
	t.Helper()
	var all []thing
	for range 1 << 20 {
		n, some, err := m.Next()
		if !some {
			if n != (thing{}) {
				t.Fatalf("beside false there is %v", n)
			}
			return all, err
		}
		if err != api.OK {
			t.Fatalf("beside %v there is the error %d", n, err)
		}
		all = append(all, n)
	}
	t.Fatal("no end")
	return nil, api.OK
}

// row makes a source's answers: things of these numbers, and behind them the end or an error.
func row(of int, end api.Errno, numbers ...int) []answer {
	var script []answer
	for at, n := range numbers {
		script = append(script, answer{thing: thing{n, of, at}, some: true})
	}
	return append(script, answer{err: end})
}

// rows makes answers of sources without errors.
func rows(numbers ...[]int) [][]answer {
	var scripts [][]answer
	for of, l := range numbers {
		scripts = append(scripts, row(of, api.OK, l...))
	}
	return scripts
}

// things are those of the scripts, one source behind the other.
func things(scripts [][]answer) []thing {
	var all []thing
	for _, script := range scripts {
		for _, a := range script {
			if a.some {
				all = append(all, a.thing)
			}
		}
	}
	return all
}

// plainSort goes by the words: each thing's place is how many have to stand ahead of it.
func plainSort(l []thing) []thing {
	sorted := make([]thing, len(l))
	for i, a := range l {
		place := 0
		for k, b := range l {
			if b.n < a.n || b.n == a.n && k < i {
				place++
			}
		}
		sorted[place] = a
	}
	return sorted
}

// sortedRows makes answers of sorted sources without errors, with few numbers, so that many things are alike.
func sortedRows(random *rand.Rand, count int) [][]answer {
	few := 1 + random.Intn(12)
	long := random.Intn(7)
	scripts := make([][]answer, count)
	for of := range scripts {
		numbers := make([]int, random.Intn(long+1))
		for i := range numbers {
			numbers[i] = random.Intn(few) - few/2
		}
		slices.Sort(numbers)
		scripts[of] = row(of, api.OK, numbers...)
	}
	return scripts
}

// anyRows makes answers of which some fall, some fail, and some have a thing beside the end or the error.
func anyRows(random *rand.Rand, count int) [][]answer {
	scripts := sortedRows(random, count)
	seldom := 1 + random.Intn(3*count+1)
	for of, script := range scripts {
		end := len(script) - 1
		if random.Intn(seldom) == 0 {
			script[end].err = api.Errno(random.Intn(300) - 20)
		}
		if random.Intn(3) == 0 {
			script[end].thing = thing{random.Intn(9) - 4, of, 77}
			script[end].some = script[end].err != api.OK && random.Intn(2) == 0
		}
		if end > 1 && random.Intn(seldom) == 0 {
			k := 1 + random.Intn(end-1)
			script[k].thing.n = script[k-1].thing.n - 1
		}
	}
	return scripts
}

// counts are numbers of sources: all few ones, the powers of two, one less and one more.
func counts() []int {
	return []int{0, 1, 2, 3, 4, 5, 6, 7, 8, 9, 10, 11, 12, 13, 15, 16, 17, 31, 32, 33, 48, 63, 64}
}

func isSame[T comparable](t *testing.T, what string, got, want []T) {
	t.Helper()
	if !slices.Equal(got, want) {
		t.Fatalf("%s: %s, and not %s", what, written(got), written(want))
	}
}

// written tells the first ones of a list.
func written[T any](l []T) string {
	return fmt.Sprintf("%d: %v", len(l), l[:min(len(l), 20)])
}

func rec(part int, key, value string) api.Record {
	return api.Record{Part: part, Key: key, Value: value}
}
