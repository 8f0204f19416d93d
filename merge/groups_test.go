package merge

import (
	"fmt"
	"iter"
	"math/rand"
	"slices"
	"strings"
	"testing"

	"winnow/api"
)

// 11.5

// group is what Groups gives.
type group struct {
	key    string
	values string
}

func groupOf(key string, values []string) group {
	return group{key, fmt.Sprintf("%q", values)}
}

// pairsOf makes pairs of texts such as a=1.
func pairsOf(text string) []api.Pair {
	var list []api.Pair
	for _, word := range strings.Fields(text) {
		key, value, _ := strings.Cut(word, "=")
		list = append(list, api.Pair{Key: key, Value: value})
	}
	return list
}

// plainGroups goes by the words: a run ends where the next one's key is another, or where there is none.
func plainGroups(pairs []api.Pair) []group {
	var list []group
	from := 0
	for i := range pairs {
		if i+1 < len(pairs) && pairs[i+1].Key == pairs[i].Key {
			continue
		}
		var values []string
		for _, p := range pairs[from : i+1] {
			values = append(values, p.Value)
		}
		list = append(list, groupOf(pairs[i].Key, values))
		from = i + 1
	}
	return list
}

func gathered(seq iter.Seq2[string, []string]) []group {
	var list []group
	for key, values := range seq {
		list = append(list, groupOf(key, values))
	}
	return list
}

func randomPairs(random *rand.Rand) []api.Pair {
	keys := []string{"", "a", "A", "a\x00", "b", "\xff"}
	few := 1 + random.Intn(len(keys))
	list := make([]api.Pair, random.Intn(20))
	for i := range list {
		list[i] = api.Pair{Key: keys[random.Intn(few)], Value: strings.Repeat("v", i%3)}
	}
	return list
}

func TestGroups(t *testing.T) {
	for _, text := range []string{"", "a=1", "=", "= =1 a=", "a= =1 =2 a=", "a=1 a=2 b=3 a=4", "a=1 a=1 a=1", "a=1 b=1 c=1", "b=1 a=2 b=3", "a=1 aa=2 a=3", "a=1 A=2", "a=1 b=2 b=3 b=4"} {
		list := pairsOf(text)
		isSame(t, text, gathered(Groups(slices.Values(list))), plainGroups(list))
	}
	isSame(t, "the example", gathered(Groups(slices.Values(pairsOf("a=1 a=2 b=3 a=4")))), []group{{"a", `["1" "2"]`}, {"b", `["3"]`}, {"a", `["4"]`}})
}

func TestGroupsOfAny(t *testing.T) {
	random := rand.New(rand.NewSource(115))
	for range 2000 {
		list := randomPairs(random)
		isSame(t, "any", gathered(Groups(slices.Values(list))), plainGroups(list))
	}
}

func TestGroupsOfNil(t *testing.T) {
	seq := Groups(nil)
	if seq == nil {
		t.Fatal("it is nil")
	}
	for range 2 {
		for key, values := range seq {
			t.Errorf("it gives %q, %q", key, values)
		}
	}
}

func TestGroupOfMany(t *testing.T) {
	list := slices.Repeat([]api.Pair{{Key: "k", Value: "v"}}, 100000)
	count := 0
	for key, values := range Groups(slices.Values(list)) {
		if count++; key != "k" || len(values) != len(list) {
			t.Errorf("%q, %d values", key, len(values))
		}
	}
	if count != 1 {
		t.Errorf("%d groups", count)
	}
}

// watched goes through pairs, and notes how often, how far, and whether it was left.
type watched struct {
	list              []api.Pair
	begun, given, end int
}

func (w *watched) all(yield func(api.Pair) bool) {
	w.begun++
	for _, p := range w.list {
		w.given++
		if !yield(p) {
			return
		}
	}
	w.end++
}

func TestGroupsGoThroughPairsAnew(t *testing.T) {
	w := &watched{list: pairsOf("a=1 a=2 b=3")}
	seq := Groups(w.all)
	if w.begun != 0 {
		t.Error("they are gone through ahead of time")
	}
	for round := 1; round <= 3; round++ {
		isSame(t, "a going through", gathered(seq), plainGroups(w.list))
		if w.begun != round || w.end != round || w.given != 3*round {
			t.Errorf("round %d: begun %d times, given %d, ended %d times", round, w.begun, w.given, w.end)
		}
	}
	w.list = pairsOf("c=5")
	isSame(t, "other pairs", gathered(seq), plainGroups(w.list))
}

// Left at each group, with pairs of which no more than is needed to see a run's end was asked.
func TestGroupsLeftEarly(t *testing.T) {
	list := pairsOf("a=1 a=2 b=3 b=4 b=5 c=6 a=7 a=8")
	needed := []int{3, 6, 7, 8}
	for last := range needed {
		w := &watched{list: list}
		var got []group
		for key, values := range Groups(w.all) {
			got = append(got, groupOf(key, values))
			if w.given != needed[len(got)-1] {
				t.Errorf("for group %d %d pairs were given", len(got), w.given)
			}
			if len(got) == last+1 {
				break
			}
		}
		isSame(t, "left early", got, plainGroups(list)[:last+1])
		left := 0
		if last == 3 {
			left = 1 // The pairs were at their end when the last run was handed out.
		}
		if w.begun != 1 || w.given != needed[last] || w.end != left {
			t.Errorf("left at %d: begun %d times, given %d, ended %d times", last, w.begun, w.given, w.end)
		}
	}
}

func TestGroupsLeftAndGoneThroughAgain(t *testing.T) {
	w := &watched{list: pairsOf("a=1 a=2 b=3 a=4")}
	seq := Groups(w.all)
	for range seq {
		break
	}
	isSame(t, "again, from the beginning", gathered(seq), plainGroups(w.list))
	if w.begun != 2 {
		t.Errorf("begun %d times", w.begun)
	}
}

func TestGroupsWithinGroups(t *testing.T) {
	list := pairsOf("a=1 a=2 b=3 a=4")
	seq := Groups(slices.Values(list))
	var outer []group
	for key, values := range seq {
		isSame(t, "within", gathered(seq), plainGroups(list))
		outer = append(outer, groupOf(key, values))
	}
	isSame(t, "around", outer, plainGroups(list))
}

// An iterator that goes on where it was left does no harm: nothing more is given.
func TestGroupsOfPairsThatGoOn(t *testing.T) {
	list := pairsOf("a=1 a=2 b=3 b=4 a=5 c=6")
	refused := 0
	seq := Groups(func(yield func(api.Pair) bool) {
		for _, p := range list {
			if !yield(p) {
				refused++
			}
		}
	})
	isSame(t, "all", gathered(seq), plainGroups(list))
	for last := 1; last <= 4; last++ {
		count := 0
		for range seq {
			if count++; count == last {
				break
			}
		}
		if count != last {
			t.Errorf("%d groups, and not %d", count, last)
		}
	}
	if refused != 4+2+1+0 {
		t.Errorf("refused %d times", refused)
	}
}

// Groups of a merge's things, as they are gone through once alone.
func TestGroupsOfAMerge(t *testing.T) {
	byKey := func(a, b api.Pair) int { return strings.Compare(a.Key, b.Key) }
	teller := func(list []api.Pair) func() (api.Pair, bool, api.Errno) {
		return func() (api.Pair, bool, api.Errno) {
			if len(list) == 0 {
				return api.Pair{}, false, api.OK
			}
			first := list[0]
			list = list[1:]
			return first, true, api.OK
		}
	}
	m := makes(t, byKey, teller(pairsOf("a=1 b=2 b=3")), teller(pairsOf("b=4 c=5")))
	seq := Groups(m.All())
	isSame(t, "once", gathered(seq), []group{{"a", `["1"]`}, {"b", `["2" "3" "4"]`}, {"c", `["5"]`}})
	isSame(t, "twice", gathered(seq), nil)
}
