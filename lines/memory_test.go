package lines

import (
	"math"
	"math/rand"
	"runtime"
	"slices"
	"strings"
	"testing"
	"unsafe"

	"winnow/api"
)

// 13.6

// loose tells a text whose bytes may be changed: whoever has kept it shows that.
func loose(text string) (string, []byte) {
	b := []byte(text)
	return unsafe.String(unsafe.SliceData(b), len(b)), b
}

func spoil(b []byte) {
	for i := range b {
		b[i] = '#'
	}
}

// roomyPlaces tells places with room behind their end, and all of them.
func roomyPlaces(random *rand.Rand, n int) (handed, whole []int) {
	whole = append(randomPlaces(random, n, 12), 3, 2, 1, -1)
	return whole[:len(whole)-4], whole
}

func TestPlacesAreNotChanged(t *testing.T) {
	random := rand.New(rand.NewSource(136))
	for range 1000 {
		text := randomText(random, 60)
		handed, whole := roomyPlaces(random, len(text))
		before := slices.Clone(whole)
		first := cuts(t, len(text), handed...)
		list := splits(t, text, handed...)
		isSame(t, "places and their room", whole, before)
		want := plainCut(len(text), handed)
		wantSplits, _ := plainSplits(text, handed)
		clear(whole)
		isSame(t, "Cut, behind a change of the places", first, want)
		isSame(t, "Splits, behind a change of the places", list, wantSplits)
	}
}

// Refused places are not changed either.
func TestRefusedPlacesAreNotChanged(t *testing.T) {
	places := make([]int, 256)
	for i := range places {
		places[i] = -i * 1000
	}
	before := slices.Clone(places)
	Cut(10, places)
	Cut(-1, places[:9])
	Cut(api.MaxText+1, places[:9])
	Splits("a\nb\n", places)
	Splits(strings.Repeat("x", api.MaxSplit+1), places[:9])
	isSame(t, "places", places, before)
}

// scribbled writes into all of a list, and into the room behind it.
func scribbled[T any](list []T, mark T) {
	list = append(list, mark)
	list = list[:cap(list)]
	for i := range list {
		list[i] = mark
	}
}

// What was answered may be written into, and appended to: no other answer shows it.
func TestAnswersAreNew(t *testing.T) {
	random := rand.New(rand.NewSource(1361))
	for range 500 {
		text := randomText(random, 60)
		places := randomPlaces(random, len(text), 12)
		before := slices.Clone(places)
		p := api.Piece{From: 0, To: len(text)}

		firstCut, secondCut := cuts(t, len(text), places...), cuts(t, len(text), places...)
		firstLines, secondLines := Lines(text), Lines(text)
		firstOf, secondOf := of(t, text, p.From, p.To), of(t, text, p.From, p.To)
		firstSplits, secondSplits := splits(t, text, places...), splits(t, text, places...)
		scribbled(firstCut, api.Piece{From: -7, To: -7})
		scribbled(firstLines, "scribble")
		scribbled(firstOf, "scribble")
		scribbled(firstSplits, api.Split{Offset: -7, Text: "scribble"})

		wantSplits, _ := plainSplits(text, before)
		isSame(t, "places", places, before)
		isSame(t, "Cut", secondCut, plainCut(len(text), before))
		isSame(t, "Lines", secondLines, plainLines(text))
		isSame(t, "Of", secondOf, plainLines(text))
		isSame(t, "Splits", secondSplits, wantSplits)
		isSame(t, "Cut once more", cuts(t, len(text), places...), secondCut)
		isSame(t, "Lines once more", Lines(text), secondLines)
		isSame(t, "Of once more", of(t, text, p.From, p.To), secondOf)
		isSame(t, "Splits once more", splits(t, text, places...), secondSplits)
	}
}

// The texts of an answer are its own: they stay as they are when what they were taken from is gone.
func TestTextsAreNotKept(t *testing.T) {
	random := rand.New(rand.NewSource(1362))
	for range 500 {
		text := randomText(random, 60)
		places := randomPlaces(random, len(text), 12)
		handed, b := loose(text)
		lines := Lines(handed)
		some := of(t, handed, 0, len(text))
		list := splits(t, handed, places...)
		given := through(All(api.Split{Offset: 3, Text: handed}))
		if string(b) != text {
			t.Fatalf("the text has become %q, and was %q", b, text)
		}
		spoil(b)
		want, _ := plainSplits(text, places)
		isSame(t, "Lines of a text that changes", lines, plainLines(text))
		isSame(t, "Of a text that changes", some, plainLines(text))
		isSame(t, "Splits of a text that changes", list, want)
		isSame(t, "All of a text that changes", given, plainAll(api.Split{Offset: 3, Text: text}))
	}
}

// To call All does nothing: the text is looked at when it is gone through, line by line.
func TestCallingAllDoesNothing(t *testing.T) {
	text, b := loose("ab\ncd\nef")
	seq := All(api.Split{Text: text})
	copy(b, "a\nbc\ndef")
	isSame(t, "behind a change", through(seq), []placed{{0, "a"}, {2, "bc"}, {5, "def"}})
	var got []placed
	for at, line := range seq {
		got = append(got, placed{at, line})
		if line == "a" {
			copy(b[2:], "\n\n\nx\n\n")
		}
	}
	isSame(t, "changed on the way", got, []placed{{0, "a"}, {2, ""}, {3, ""}, {4, ""}, {5, "x"}, {7, ""}})

	s := api.Split{Text: rows(1<<16, 64)}
	if made := bytesMade(func() { All(s) }); made > 1000 {
		t.Errorf("the call makes %d bytes", made)
	}
	first := bytesMade(func() {
		for range All(s) {
			break
		}
	})
	if first > 4000 {
		t.Errorf("the first line makes %d bytes", first)
	}
}

// bytesMade tells how many bytes of memory a call takes: the least of some times, as whatever else runs meanwhile may take some, too.
func bytesMade(call func()) uint64 {
	least := uint64(math.MaxUint64)
	for range 5 {
		var before, after runtime.MemStats
		runtime.ReadMemStats(&before)
		call()
		runtime.ReadMemStats(&after)
		least = min(least, after.TotalAlloc-before.TotalAlloc)
	}
	return least
}

// live tells how many bytes are held.
func live() int64 {
	runtime.GC()
	runtime.GC()
	var m runtime.MemStats
	runtime.ReadMemStats(&m)
	return int64(m.HeapAlloc)
}

// Short lines and short splits do not hold on to the long text that they were cut from.
func TestLittleIsKept(t *testing.T) {
	before := live()
	var kept []string
	for range 100 {
		text := "a\n" + strings.Repeat("t", 1<<15) + "\nb\n"
		kept = append(kept, Lines(text)[0])
		kept = append(kept, of(t, text, 0, 1)...)
		kept = append(kept, splits(t, text, 2)[0].Text)
		for _, line := range All(api.Split{Text: text}) {
			kept = append(kept, line)
			break
		}
	}
	if grown := live() - before; grown > 1<<20 {
		t.Errorf("with %d short texts %d bytes are kept", len(kept), grown)
	}
	runtime.KeepAlive(kept)
}

// Texts may be cut by several at one time, and one iterator may be gone through by several.
func TestSeveralAtOneTime(t *testing.T) {
	random := rand.New(rand.NewSource(1363))
	text := randomText(random, 3000)
	places := randomPlaces(random, len(text), 30)
	want, _ := plainSplits(text, places)
	s := api.Split{Offset: 9, Text: text}
	seq := All(s)
	done := make(chan bool)
	for range 8 {
		go func() {
			ok := true
			for range 20 {
				got, err := Splits(text, places)
				list, _ := Cut(len(text), places)
				ok = ok && err == api.OK && slices.Equal(got, want) && slices.Equal(list, plainCut(len(text), places))
				ok = ok && slices.Equal(Lines(text), plainLines(text)) && slices.Equal(through(seq), plainAll(s))
			}
			done <- ok
		}()
	}
	for range 8 {
		if !<-done {
			t.Error("at one time another answer")
		}
	}
}
