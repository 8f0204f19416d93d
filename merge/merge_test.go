package merge

import (
	"cmp"
	"fmt"
	"math"
	"math/rand"
	"slices"
	"strings"
	"testing"

	"winnow/api"
)

// 11.1

func TestNew(t *testing.T) {
	for count := range 140 {
		h := deal(sortedRows(rand.New(rand.NewSource(int64(count))), count))
		m, err := New(byNumber, h.sources()...)
		if count > 64 {
			if m != nil || err != api.ErrArg {
				t.Errorf("of %d sources: %v, %d", count, m, err)
			}
		} else if m == nil || err != api.OK || m.Err() != api.OK {
			t.Errorf("of %d sources: %v, %d", count, m, err)
		}
		if len(h.asked) != 0 {
			t.Errorf("New of %d sources asks %v", count, h.asked)
		}
	}
}

func TestNewRefusesNil(t *testing.T) {
	never := func() (thing, bool, api.Errno) {
		t.Error("New asks")
		return thing{}, false, api.OK
	}
	neither := func(a, b thing) int {
		t.Error("New compares")
		return 0
	}
	for _, count := range []int{1, 2, 3, 63, 64, 65, 66, 200} {
		for _, place := range []int{0, count / 2, count - 1} {
			from := slices.Repeat([]func() (thing, bool, api.Errno){never}, count)
			if m, err := New(nil, from...); m != nil || err != api.ErrNil {
				t.Errorf("a nil compare, %d sources: %v, %d", count, m, err)
			}
			from[place] = nil
			if m, err := New(neither, from...); m != nil || err != api.ErrNil {
				t.Errorf("a nil source at %d of %d: %v, %d", place, count, m, err)
			}
			if m, err := New(nil, from...); m != nil || err != api.ErrNil {
				t.Errorf("nil both: %v, %d", m, err)
			}
		}
	}
	if m, err := New[thing](nil); m != nil || err != api.ErrNil {
		t.Errorf("a nil compare without sources: %v, %d", m, err)
	}
	if m, err := New[thing](nil, nil); m != nil || err != api.ErrNil {
		t.Errorf("a nil compare and a nil source: %v, %d", m, err)
	}
}

// 11.2

func TestExamples(t *testing.T) {
	for _, c := range []struct {
		scripts [][]answer
		want    string
		err     api.Errno
	}{
		{nil, "", api.OK},
		{rows([]int{1, 4}, []int{2, 4}, []int{3}), "1/0 2/1 3/2 4/0 4/1 ", api.OK},
		{rows([]int{2, 1}, []int{3}), "2/0 ", api.ErrOrder},
		{[][]answer{row(0, 17, 5), row(1, 0, 4, 6)}, "4/1 5/0 ", 17},
		{[][]answer{row(0, 17)}, "", 17},
		{[][]answer{row(0, 0, 1), row(1, 17), row(2, 18)}, "", 17},
		{[][]answer{row(0, 17, 1), row(1, 18, 1)}, "1/0 ", 17},
		{[][]answer{row(0, 17, 2), row(1, 18, 1)}, "1/1 ", 18},
		{[][]answer{row(0, 0, 1, 3, 5), row(1, 18, 2, 4)}, "1/0 2/1 3/0 4/1 ", 18},
		{rows([]int{5, 5, 5}, nil, []int{5, 5}), "5/0 5/0 5/0 5/2 5/2 ", api.OK},
		{rows(nil, nil, []int{1}), "1/2 ", api.OK},
		{rows([]int{1}, nil, nil), "1/0 ", api.OK},
		{rows(nil, nil, nil), "", api.OK},
		{rows([]int{3, 3, 2}), "3/0 3/0 ", api.ErrOrder},
	} {
		m := deal(c.scripts).merge(t)
		for range 2 {
			list, err := told(t, m)
			text := ""
			for _, n := range list {
				text += fmt.Sprintf("%d/%d ", n.n, n.of)
			}
			if text != c.want || err != c.err || m.Err() != c.err {
				t.Errorf("%v: %s %d, and not %s %d", c.scripts, text, err, c.want, c.err)
			}
			c.want = ""
		}
	}
}

// Answers, who is asked for them in which order, and Err, behind each Next.
func TestNextOfAny(t *testing.T) {
	random := rand.New(rand.NewSource(112))
	for _, count := range counts() {
		for range 120 {
			scripts := anyRows(random, count)
			h := deal(scripts)
			follows(t, h.merge(t), h, newPlain(scripts))
		}
	}
}

// All scripts of up to three sources of up to two things with the numbers 0 and 1, and an end or an error.
func TestNextOfAllShort(t *testing.T) {
	var each [][]answer
	for _, end := range []api.Errno{api.OK, 5} {
		for _, numbers := range [][]int{nil, {0}, {1}, {0, 0}, {0, 1}, {1, 0}, {1, 1}} {
			each = append(each, row(0, end, numbers...))
		}
	}
	for count := range 4 {
		for choice := range int(math.Pow(float64(len(each)), float64(count))) {
			scripts := make([][]answer, count)
			for of := range scripts {
				scripts[of] = slices.Clone(each[choice%len(each)])
				choice /= len(each)
				for i := range scripts[of] {
					scripts[of][i].thing.of = of
				}
			}
			h := deal(scripts)
			follows(t, h.merge(t), h, newPlain(scripts))
		}
	}
}

// The order of asking, written out.
func TestWhoIsAsked(t *testing.T) {
	h := deal([][]answer{row(0, 0, 2, 4), row(1, 0), row(2, 0, 1, 4, 4)})
	m := h.merge(t)
	for i, c := range []struct {
		want  string
		asked []int
	}{
		{"1/2", []int{0, 1, 2}},
		{"2/0", []int{2}},
		{"4/0", []int{0}},
		{"4/2", []int{0}},
		{"4/2", []int{2}},
		{"end", []int{2}},
		{"end", nil},
		{"end", nil},
	} {
		h.asked = nil
		n, some, err := m.Next()
		got := "end"
		if some {
			got = fmt.Sprintf("%d/%d", n.n, n.of)
		}
		if got != c.want || err != api.OK {
			t.Errorf("Next %d: %s %d, and not %s", i, got, err, c.want)
		}
		isSame(t, "asked", h.asked, c.asked)
		if m.Err() != api.OK {
			t.Errorf("Err: %d", m.Err())
		}
	}
}

// With an error at the first Next no further source is asked.
func TestFirstErrorEndsTheAsking(t *testing.T) {
	for _, count := range []int{1, 2, 3, 8, 9, 64} {
		for bad := range count {
			scripts := make([][]answer, count)
			for of := range scripts {
				scripts[of] = row(of, api.OK, 1, 2)
				if of >= bad {
					scripts[of] = row(of, api.Errno(100+of))
				}
			}
			h := deal(scripts)
			m := h.merge(t)
			for range 3 {
				if n, some, err := m.Next(); n != (thing{}) || some || err != api.Errno(100+bad) {
					t.Fatalf("%d of %d fails: %v, %v, %d", bad, count, n, some, err)
				}
			}
			for range m.All() {
				t.Fatal("All behind an error")
			}
			if len(h.asked) != bad+1 || h.asked[bad] != bad {
				t.Fatalf("%d of %d fails: asked %v", bad, count, h.asked)
			}
		}
	}
}

// Each source in turn fails, or falls, behind each of its things.
func TestEachSourceFails(t *testing.T) {
	for _, count := range []int{1, 2, 3, 4, 5, 7, 8, 9, 17} {
		for bad := range count {
			for at := range 5 {
				for _, falls := range []bool{false, true} {
					scripts := make([][]answer, count)
					for of := range scripts {
						scripts[of] = row(of, api.OK, 0, of%3, 3, 3+of%2)
					}
					scripts[bad][at] = answer{thing{9, bad, at}, true, api.ErrCorrupt}
					if falls {
						scripts[bad][at] = answer{thing{-1, bad, at}, true, api.OK}
					}
					h := deal(scripts)
					follows(t, h.merge(t), h, newPlain(scripts))
				}
			}
		}
	}
}

// A source's first thing may be anything: only what it told itself counts for its order.
func TestOrderIsEachSourcesOwn(t *testing.T) {
	scripts := rows([]int{1, 9}, []int{-5, -4, 8}, []int{8, 8, 8}, []int{math.MinInt32, math.MaxInt32})
	list, err := told(t, deal(scripts).merge(t))
	if err != api.OK {
		t.Fatalf("error %d", err)
	}
	isSame(t, "all", list, plainSort(things(scripts)))
}

// A thing beside an error, or beside the end, is none.
func TestNothingBesideTheEnd(t *testing.T) {
	for _, end := range []answer{{thing{1, 0, 9}, false, api.OK}, {thing{-1, 0, 9}, false, api.OK}, {thing{5, 0, 9}, true, 7}, {thing{-1, 0, 9}, true, 7}, {thing{-1, 0, 9}, false, 7}, {thing{}, false, -3}, {thing{}, true, math.MinInt}} {
		scripts := [][]answer{{{thing{0, 0, 0}, true, api.OK}, end}, row(1, 0, 2)}
		h := deal(scripts)
		follows(t, h.merge(t), h, newPlain(scripts))
	}
}

// What compare says may be any number below, above or 0.
func TestCompareByItsSign(t *testing.T) {
	random := rand.New(rand.NewSource(1121))
	for _, says := range [][2]int{{-1, 1}, {-7, 9}, {math.MinInt, math.MaxInt}, {-1, math.MaxInt}, {math.MinInt, 1}} {
		compare := func(a, b thing) int {
			switch {
			case a.n < b.n:
				return says[0]
			case a.n > b.n:
				return says[1]
			}
			return 0
		}
		for range 200 {
			scripts := sortedRows(random, 1+random.Intn(12))
			list, err := told(t, makes(t, compare, deal(scripts).sources()...))
			if err != api.OK {
				t.Fatalf("error %d", err)
			}
			isSame(t, "all", list, plainSort(things(scripts)))
		}
	}
}

// A compare that means nothing does no harm: there is an end, and no thing is told twice.
func TestCompareThatMeansNothing(t *testing.T) {
	random := rand.New(rand.NewSource(1122))
	for _, compare := range []func(a, b thing) int{
		func(a, b thing) int { return 1 },
		func(a, b thing) int { return -1 },
		func(a, b thing) int { return 0 },
		func(a, b thing) int { return random.Intn(3) - 1 },
		func(a, b thing) int { return b.n - a.n },
	} {
		for _, count := range counts() {
			scripts := sortedRows(random, count)
			list, err := told(t, makes(t, compare, deal(scripts).sources()...))
			if err != api.OK && err != api.ErrOrder {
				t.Fatalf("error %d", err)
			}
			all := things(scripts)
			if len(list) > len(all) || err == api.OK && len(list) != len(all) {
				t.Fatalf("%d things of %d", len(list), len(all))
			}
			seen := map[thing]int{}
			for _, n := range list {
				seen[n]++
				if seen[n] > 1 || !slices.Contains(all, n) {
					t.Fatalf("%v is told %d times", n, seen[n])
				}
			}
		}
	}
}

// endless is a source of all numbers from n on, by a step.
func endless(n, step int) func() (int, bool, api.Errno) {
	return func() (int, bool, api.Errno) {
		n += step
		return n - step, true, api.OK
	}
}

func TestEndlessSources(t *testing.T) {
	m := makes(t, cmp.Compare[int], endless(0, 3), endless(1, 3), endless(2, 3))
	want := 0
	for range 5 {
		for n := range m.All() {
			if n != want {
				t.Fatalf("%d, and not %d", n, want)
			}
			if want++; want%100 == 0 {
				break
			}
		}
	}
	if n, some, err := m.Next(); n != want || want != 500 || !some || err != api.OK {
		t.Errorf("Next: %d, %v, %d", n, some, err)
	}
}

// Behind its first thing, which is found in one game fewer than there are sources, a merge plays only the games on the way up, and holds the new thing against the one before.
func TestOnlyTheWinnersWayIsPlayed(t *testing.T) {
	random := rand.New(rand.NewSource(1123))
	for count := 1; count <= 64; count++ {
		compared := 0
		compare := func(a, b thing) int {
			compared++
			return byNumber(a, b)
		}
		way := 0
		for 1<<way < count {
			way++
		}
		m := makes(t, compare, deal(sortedRows(random, count)).sources()...)
		for first := true; ; first = false {
			compared = 0
			_, some, _ := m.Next()
			if first && compared > count-1 || !first && compared > way+1 {
				t.Fatalf("%d sources: compared %d times", count, compared)
			}
			if !some {
				break
			}
		}
	}
}

// 11.3

func TestAllIsNext(t *testing.T) {
	random := rand.New(rand.NewSource(113))
	for _, count := range counts() {
		for range 60 {
			scripts := anyRows(random, count)
			want, wantErr := told(t, deal(scripts).merge(t))
			h := deal(scripts)
			m := h.merge(t)
			all := m.All()
			if len(h.asked) != 0 {
				t.Fatal("All asks ahead of being gone through")
			}
			var got []thing
			for n := range all {
				if m.Err() != api.OK {
					t.Fatalf("Err in the midst: %d", m.Err())
				}
				got = append(got, n)
			}
			isSame(t, "All", got, want)
			if m.Err() != wantErr {
				t.Fatalf("Err: %d, and not %d", m.Err(), wantErr)
			}
			was := len(h.asked)
			for range 2 {
				for range all {
					t.Fatal("All behind the end")
				}
				for range m.All() {
					t.Fatal("another All behind the end")
				}
				if n, some, err := m.Next(); n != (thing{}) || some || err != wantErr || m.Err() != wantErr {
					t.Fatalf("Next behind the end: %v, %v, %d", n, some, err)
				}
			}
			if len(h.asked) != was {
				t.Fatalf("behind the end %v were asked", h.asked[was:])
			}
		}
	}
}

// Whoever leaves goes on where he stopped, whichever way, and nobody is asked for what is not wanted yet.
func TestLeavingEarly(t *testing.T) {
	random := rand.New(rand.NewSource(1131))
	for range 3000 {
		scripts := anyRows(random, random.Intn(9))
		p := newPlain(scripts)
		h := deal(scripts)
		m := h.merge(t)
		kept := m.All()
		for !p.over {
			wanted := random.Intn(5)
			all := kept
			if random.Intn(2) == 0 {
				all = m.All()
			}
			if wanted == 0 {
				n, some, err := m.Next()
				if got, want := (answer{n, some, err}), p.next(); got != want {
					t.Fatalf("Next: %v, and not %v", got, want)
				}
			} else {
				for n := range all {
					if want := p.next(); want.thing != n || !want.some {
						t.Fatalf("All: %v, and not %v", n, want)
					}
					if wanted--; wanted == 0 {
						break
					}
				}
				if wanted > 0 && p.next().some {
					t.Fatal("All ends early")
				}
			}
			isSame(t, "asked", h.asked, p.hand.asked)
			if m.Err() != p.err {
				t.Fatalf("Err: %d, and not %d", m.Err(), p.err)
			}
		}
	}
}

func TestLeavingWrittenOut(t *testing.T) {
	h := deal([][]answer{row(0, 0, 1, 3, 5), row(1, 91, 2, 4)})
	m := h.merge(t)
	for n := range m.All() {
		if n.n == 2 {
			break
		}
	}
	isSame(t, "asked", h.asked, []int{0, 1, 0})
	if n, some, err := m.Next(); n.n != 3 || !some || err != api.OK || m.Err() != api.OK {
		t.Errorf("Next: %v, %v, %d", n, some, err)
	}
	isSame(t, "asked", h.asked, []int{0, 1, 0, 1})
	var left []int
	for n := range m.All() {
		left = append(left, n.n)
	}
	isSame(t, "All", left, []int{4})
	if m.Err() != 91 {
		t.Errorf("Err: %d", m.Err())
	}
}

// Next within a range over All takes what comes next from it.
func TestNextWithinAll(t *testing.T) {
	m := deal(rows([]int{1, 3, 5}, []int{2, 4})).merge(t)
	var outer, inner []int
	for n := range m.All() {
		outer = append(outer, n.n)
		if n, some, _ := m.Next(); some {
			inner = append(inner, n.n)
		}
	}
	isSame(t, "All", outer, []int{1, 3, 5})
	isSame(t, "Next within", inner, []int{2, 4})
}

func TestNilMerge(t *testing.T) {
	var m *Merge[string]
	for range 2 {
		if text, some, err := m.Next(); text != "" || some || err != api.ErrNil {
			t.Errorf("Next: %q, %v, %d", text, some, err)
		}
		if m.Err() != api.ErrNil {
			t.Errorf("Err: %d", m.Err())
		}
		if m.All() == nil {
			t.Error("All is nil")
		}
		for range m.All() {
			t.Error("All gives something")
		}
	}
}

// Things may be of any type.
func TestAnyType(t *testing.T) {
	words := func(l ...string) func() ([]byte, bool, api.Errno) {
		return func() ([]byte, bool, api.Errno) {
			if len(l) == 0 {
				return nil, false, api.OK
			}
			first := l[0]
			l = l[1:]
			return []byte(first), true, api.OK
		}
	}
	byBytes := func(a, b []byte) int { return strings.Compare(string(a), string(b)) }
	text := ""
	for b := range makes(t, byBytes, words("a", "c", "\xff"), words("", "b")).All() {
		text += string(b) + " "
	}
	if text != " a b c \xff " {
		t.Errorf("bytes: %q", text)
	}

	one := func(n any) func() (any, bool, api.Errno) {
		some := true
		return func() (any, bool, api.Errno) {
			was := some
			some = false
			return n, was, api.OK
		}
	}
	anyOrder := func(a, b any) int { return strings.Compare(fmt.Sprint(a), fmt.Sprint(b)) }
	var list []any
	for n := range makes(t, anyOrder, one(7), one(nil), one("5"), one(6.5)).All() {
		list = append(list, n)
	}
	if fmt.Sprint(list) != "[5 6.5 7 <nil>]" {
		t.Errorf("anything: %v", list)
	}

	count := 0
	alike := func(a, b func()) int { return 0 }
	function := func() (func(), bool, api.Errno) { count++; return nil, count < 5, api.OK }
	for f := range makes(t, alike, function).All() {
		if f != nil {
			t.Error("no nil function")
		}
	}
	if count != 5 {
		t.Errorf("asked %d times", count)
	}
}

// What follows

// 11.7
func TestStable(t *testing.T) {
	random := rand.New(rand.NewSource(117))
	for count := range 65 {
		for range 20 {
			scripts := sortedRows(random, count)
			list, err := told(t, deal(scripts).merge(t))
			if err != api.OK {
				t.Fatalf("error %d", err)
			}
			isSame(t, "all", list, plainSort(things(scripts)))
		}
	}
}

func TestAllAlike(t *testing.T) {
	for count := range 65 {
		numbers := make([][]int, count)
		for of := range numbers {
			numbers[of] = slices.Repeat([]int{4}, (of*5)%4)
		}
		scripts := rows(numbers...)
		list, err := told(t, deal(scripts).merge(t))
		if err != api.OK {
			t.Fatalf("error %d", err)
		}
		isSame(t, "one source behind the other", list, things(scripts))
	}
}

func TestManyThings(t *testing.T) {
	random := rand.New(rand.NewSource(1171))
	for _, count := range []int{1, 2, 33, 64} {
		numbers := make([][]int, count)
		for range 60000 {
			of := random.Intn(count)
			numbers[of] = append(numbers[of], random.Intn(9000))
		}
		for _, l := range numbers {
			slices.Sort(l)
		}
		scripts := rows(numbers...)
		list, err := told(t, deal(scripts).merge(t))
		if err != api.OK {
			t.Fatalf("error %d", err)
		}
		want := things(scripts)
		slices.SortStableFunc(want, byNumber)
		isSame(t, "many", list, want)
	}
}

// 11.8: the first moment at which a source fails is that behind its last thing, or the beginning, if it has none.
func TestUpToTheError(t *testing.T) {
	random := rand.New(rand.NewSource(118))
	for range 4000 {
		scripts := sortedRows(random, 1+random.Intn(10))
		for range 1 + random.Intn(3) {
			of := random.Intn(len(scripts))
			scripts[of][len(scripts[of])-1].err = api.Errno(1000 + of)
		}
		want := plainSort(things(scripts))
		moment := len(want) + 1
		failed := -1
		for of, script := range scripts {
			n := len(script) - 1
			if script[n].err == api.OK {
				continue
			}
			place := 0
			if n > 0 {
				place = 1 + slices.Index(want, script[n-1].thing)
			}
			if place < moment {
				moment, failed = place, of
			}
		}
		list, err := told(t, deal(scripts).merge(t))
		isSame(t, "up to the error", list, want[:moment])
		if err != api.Errno(1000+failed) {
			t.Fatalf("error %d, and not that of %d, of %v", err, failed, scripts)
		}
	}
}

// bundled makes a merge of merges of neighbouring bundles, of at most so many sources each.
func bundled(t *testing.T, random *rand.Rand, from []func() (thing, bool, api.Errno), most int) []func() (thing, bool, api.Errno) {
	var bundles []func() (thing, bool, api.Errno)
	for len(from) > 0 {
		size := min(random.Intn(most+1), len(from))
		bundles = append(bundles, makes(t, byNumber, from[:size]...).Next)
		from = from[size:]
	}
	return bundles
}

// 11.9: also with sources that fail or fall, and each is asked when it would be asked without bundles.
func TestMergeOfMerges(t *testing.T) {
	random := rand.New(rand.NewSource(119))
	for round := range 1500 {
		scripts := anyRows(random, random.Intn(12))
		if round%3 == 0 {
			scripts = sortedRows(random, random.Intn(60))
		}
		h := deal(scripts)
		from := h.sources()
		for range 1 + random.Intn(3) {
			from = bundled(t, random, from, 8)
		}
		for len(from) > 64 {
			from = bundled(t, random, from, 64)
		}
		follows(t, makes(t, byNumber, from...), h, newPlain(scripts))
	}
}

// More sources than one merge takes.
func TestMergeOfManyMerges(t *testing.T) {
	random := rand.New(rand.NewSource(1191))
	for _, count := range []int{65, 256, 64 * 64} {
		scripts := sortedRows(random, count)
		from := deal(scripts).sources()
		var bundles []func() (thing, bool, api.Errno)
		for bundle := range slices.Chunk(from, 64) {
			bundles = append(bundles, makes(t, byNumber, bundle...).Next)
		}
		list, err := told(t, makes(t, byNumber, bundles...))
		if err != api.OK {
			t.Fatalf("error %d", err)
		}
		want := things(scripts)
		slices.SortStableFunc(want, byNumber)
		isSame(t, "all", list, want)
	}
}

// Merges do not know of each other.
func TestTwoMerges(t *testing.T) {
	a := deal(rows([]int{1, 3}, []int{2})).merge(t)
	b := deal([][]answer{row(0, 7, 10, 30), row(1, 0, 20)}).merge(t)
	text := ""
	for range 4 {
		x, _, _ := a.Next()
		y, _, _ := b.Next()
		text += fmt.Sprint(x.n, y.n, a.Err(), b.Err(), "; ")
	}
	if text != "1 10 0 0; 2 20 0 0; 3 30 0 0; 0 0 0 7; " {
		t.Error(text)
	}
}
