package jobs

import (
	"math/rand"
	"runtime"
	"slices"
	"strings"
	"sync"
	"testing"
	"unsafe"

	"winnow/api"
)

// 15.6

// loose tells a text whose bytes may be changed: whoever has kept it shows that.
func loose(text string) (string, []byte) {
	b := []byte(text)
	return unsafe.String(unsafe.SliceData(b), len(b)), b
}

func looseTexts(texts []string) (handed []string, all [][]byte) {
	for _, text := range texts {
		one, b := loose(text)
		handed = append(handed, one)
		all = append(all, b)
	}
	return handed, all
}

func looseSplits(splits []api.Split) (handed []api.Split, all [][]byte) {
	for _, s := range splits {
		one, b := loose(s.Text)
		handed = append(handed, split(s.Offset, one))
		all = append(all, b)
	}
	return handed, all
}

func spoil(all ...[]byte) {
	for _, b := range all {
		for i := range b {
			b[i] = '#'
		}
	}
}

// scribbled writes into all of a list, and into the room behind it.
func scribbled[T any](list []T, mark T) {
	list = append(list, mark)
	list = list[:cap(list)]
	for i := range list {
		list[i] = mark
	}
}

// roomy tells a list with room behind its end, and all of it.
func roomy[T any](list []T, room ...T) (handed, whole []T) {
	whole = append(slices.Clone(list), room...)
	return whole[:len(list)], whole
}

func TestValuesAreNotChanged(t *testing.T) {
	random := rand.New(rand.NewSource(156))
	for range 2000 {
		handed, whole := roomy(randomValues(random, 10), "room", "3", "")
		before := slices.Clone(whole)
		for _, kind := range kinds() {
			combined, reduced := Combine(kind, handed), Reduce(kind, handed)
			isSame(t, "the values and their room", whole, before)
			clear(whole)
			isSame(t, "Combine, behind a change of the values", combined, plainCombine(kind, before[:len(handed)]))
			isSame(t, "Reduce, behind a change of the values", reduced, plainReduce(kind, before[:len(handed)]))
			copy(whole, before)
		}
	}
}

func TestSplitsAndBoundsAreNotChanged(t *testing.T) {
	random := rand.New(rand.NewSource(1561))
	for range 1000 {
		j := randomJob(random)
		splits, allSplits := roomy(randomSplits(random), split(1, "room"), split(2, "a b"))
		bounds, allBounds := roomy(j.Bounds, "room", "a")
		j.Bounds = bounds
		splitsBefore, boundsBefore := slices.Clone(allSplits), slices.Clone(allBounds)
		texts, dropped := mean(t, j, splits)
		isSame(t, "the splits and their room", allSplits, splitsBefore)
		isSame(t, "the bounds and their room", allBounds, boundsBefore)
		want, wantDropped := plainMean(j, splits)
		clear(allSplits)
		clear(allBounds)
		isSame(t, "Mean, behind a change of the splits", texts, want)
		isNumber(t, "dropped", dropped, wantDropped)
	}
}

// What is refused is not changed either.
func TestRefusedIsNotChanged(t *testing.T) {
	bounds, allBounds := roomy(words("c a b"), "z", "y")
	splits, allSplits := roomy([]api.Split{split(3, "b a")}, split(9, "z"))
	boundsBefore, splitsBefore := slices.Clone(allBounds), slices.Clone(allSplits)
	isRefused(t, "bounds that fall", api.Job{Parts: 4, Bounds: bounds}, splits, api.ErrBounds)
	isRefused(t, "no such kind", api.Job{Kind: 5, Parts: 4, Bounds: bounds}, splits, api.ErrJob)
	isRefused(t, "no such number", api.Job{Bounds: bounds}, splits, api.ErrArg)
	isSame(t, "bounds", allBounds, boundsBefore)
	isSame(t, "splits", allSplits, splitsBefore)
}

// What was answered may be written into, and appended to: no other answer shows it.
func TestAnswersAreNew(t *testing.T) {
	random := rand.New(rand.NewSource(1562))
	for range 1000 {
		line, list := randomLine(random), randomValues(random, 10)
		before := slices.Clone(list)
		j, splits := randomJob(random), randomSplits(random)
		splitsBefore := slices.Clone(splits)
		kind := j.Kind
		for range 2 {
			wantPairs, _ := plainMap(kind, 5, line)
			wantTexts, _ := plainMean(j, splitsBefore)
			pairs, _ := Map(kind, 5, line)
			combined, reduced := Combine(kind, list), Reduce(kind, list)
			texts, _ := mean(t, j, splits)
			isSame(t, "Map", pairs, wantPairs)
			isSame(t, "Combine", combined, plainCombine(kind, before))
			isSame(t, "Reduce", reduced, plainReduce(kind, before))
			isSame(t, "Mean", texts, wantTexts)
			scribbled(pairs, api.Pair{Key: "scribble", Value: "scribble"})
			scribbled(combined, "scribble")
			scribbled(reduced, "scribble")
			scribbled(texts, "scribble")
			isSame(t, "the values", list, before)
			isSame(t, "the splits", splits, splitsBefore)
		}
	}
}

// The texts of an answer are its own: they stay as they are when what they were taken from is gone.
func TestTextsAreNotKept(t *testing.T) {
	random := rand.New(rand.NewSource(1563))
	for _, line := range append(oddLines(), randomValues(random, 100)...) {
		for _, kind := range five() {
			want, _ := plainMap(kind, 5, line)
			handed, b := loose(line)
			pairs, _ := Map(kind, 5, handed)
			if string(b) != line {
				t.Fatalf("the line has become %q, and was %q", b, line)
			}
			spoil(b)
			isSame(t, "Map of a line that changes", pairs, want)
		}
	}
	for range 1000 {
		list := randomValues(random, 10)
		for _, kind := range five() {
			handed, all := looseTexts(list)
			combined, reduced := Combine(kind, handed), Reduce(kind, handed)
			isSame(t, "the values", handed, list)
			spoil(all...)
			isSame(t, "Combine of values that change", combined, plainCombine(kind, list))
			isSame(t, "Reduce of values that change", reduced, plainReduce(kind, list))
		}
	}
}

func TestLinesOfTheOutputAreNew(t *testing.T) {
	key, keyBytes := loose("key")
	value, valueBytes := loose("value")
	line := Line(key, value)
	none := Line("", value)
	spoil(keyBytes, valueBytes)
	isSame(t, "Line of texts that change", []string{line, none}, []string{"key\tvalue\n", "\tvalue\n"})
}

func TestMeansAreNew(t *testing.T) {
	random := rand.New(rand.NewSource(1564))
	for range 1000 {
		j, splits := randomJob(random), randomSplits(random)
		want, _ := plainMean(j, splits)
		handed, all := looseSplits(splits)
		bounds, allBounds := looseTexts(j.Bounds)
		j.Bounds = bounds
		texts, _ := mean(t, j, handed)
		isSame(t, "the splits", handed, splits)
		spoil(all...)
		spoil(allBounds...)
		isSame(t, "Mean of texts that change", texts, want)
	}
}

// Of what a call was given nothing is left behind: the same arguments, changed, give other answers.
func TestNothingIsKept(t *testing.T) {
	text, b := loose("a b")
	splits := []api.Split{split(0, text)}
	j := api.Job{Kind: api.JobCount, Parts: 1}
	means(t, j, splits, 0, "a\t1\nb\t1\n")
	b[2] = 'a'
	means(t, j, splits, 0, "a\t2\n")
	list := words("1 2")
	values(t, api.JobSum, list, words("3"), words("3"))
	list[1] = "5"
	values(t, api.JobSum, list, words("6"), words("6"))
}

// live tells how many bytes are held.
func live() int64 {
	runtime.GC()
	runtime.GC()
	var m runtime.MemStats
	runtime.ReadMemStats(&m)
	return int64(m.HeapAlloc)
}

// Short keys and values do not hold on to the long texts that they were taken from.
func TestLittleIsKept(t *testing.T) {
	before := live()
	var kept [][]api.Pair
	var values [][]string
	for range 100 {
		counted, _ := Map(api.JobCount, 0, "word"+strings.Repeat(" ", 1<<15))
		keyed, _ := Map(api.JobSort, 0, (strings.Repeat(" ", 1<<15) + "k\tv")[1<<15:])
		kept = append(kept, counted, keyed)
		piece := []string{strings.Repeat("1", 1<<15)[:1]}
		values = append(values, Combine(api.JobSort, piece), Reduce(api.JobDistinct, piece))
	}
	if grown := live() - before; grown > 1<<20 {
		t.Errorf("with %d short lists %d bytes are kept", len(kept)+len(values), grown)
	}
	runtime.KeepAlive(kept)
	runtime.KeepAlive(values)
}

func TestManyAtOneTime(t *testing.T) {
	random := rand.New(rand.NewSource(1565))
	j, splits := randomJob(random), randomSplits(random)
	list, line := randomValues(random, 10), "b a\tb a"
	var all sync.WaitGroup
	for worker := range 8 {
		all.Add(1)
		go func() {
			defer all.Done()
			mine := j
			for round := range 100 {
				mine.Kind = (worker + round) % 5
				texts, _, err := Mean(mine, splits)
				want, _ := plainMean(mine, splits)
				pairs, _ := Map(mine.Kind, 3, line)
				wantPairs, _ := plainMap(mine.Kind, 3, line)
				if err != api.OK || !slices.Equal(texts, want) || !slices.Equal(pairs, wantPairs) || !slices.Equal(Reduce(mine.Kind, list), plainReduce(mine.Kind, list)) || !slices.Equal(Combine(mine.Kind, list), plainCombine(mine.Kind, list)) {
					t.Errorf("the worker %d was told something else", worker)
				}
			}
		}()
	}
	all.Wait()
}
