package parts

import (
	"math/rand"
	"runtime"
	"slices"
	"strings"
	"testing"
	"unsafe"

	"winnow/api"
)

// 14.6

// loose tells texts whose bytes may be changed: whoever has kept one shows that.
func loose(texts []string) (handed []string, all [][]byte) {
	for _, text := range texts {
		b := []byte(text)
		handed = append(handed, unsafe.String(unsafe.SliceData(b), len(b)))
		all = append(all, b)
	}
	return handed, all
}

func spoil(all [][]byte) {
	for _, b := range all {
		for i := range b {
			b[i] = '#'
		}
	}
}

// roomy tells a list with room behind its end, and all of it.
func roomy(list []string) (handed, whole []string) {
	whole = append(slices.Clone(list), "room", "a", "")
	return whole[:len(list)], whole
}

func TestSamplesAreNotChanged(t *testing.T) {
	random := rand.New(rand.NewSource(146))
	for range 1000 {
		handed, whole := roomy(randomKeys(random, 20))
		before := slices.Clone(whole)
		n := 1 + random.Intn(30)
		got := bounds(t, handed, n)
		isSame(t, "the sample and its room", whole, before)
		want, _ := plainBounds(handed, n)
		clear(whole)
		isSame(t, "Bounds, behind a change of the sample", got, want)
	}
	handed, whole := roomy([]string{"z", strings.Repeat("k", 1025), "a"})
	before := slices.Clone(whole)
	isRefused(t, handed, 2, api.ErrBounds)
	isRefused(t, handed, 0, api.ErrArg)
	isSame(t, "a sample that is refused", whole, before)
}

func TestListsOfBoundsAreNotChanged(t *testing.T) {
	random := rand.New(rand.NewSource(1461))
	for range 1000 {
		j := randomJob(random)
		handed, whole := roomy(j.Bounds)
		j.Bounds = handed
		before := slices.Clone(whole)
		key := randomKey(random)
		Range(handed, key)
		Check(j)
		Of(j, key)
		isSame(t, "the bounds and their room", whole, before)
	}
}

// What was answered may be written into, and appended to: no other answer shows it.
func TestAnswersAreNew(t *testing.T) {
	random := rand.New(rand.NewSource(1462))
	for range 500 {
		sample := randomKeys(random, 20)
		before := slices.Clone(sample)
		n := 1 + random.Intn(30)
		first, second := bounds(t, sample, n), bounds(t, sample, n)
		first = append(first, "scribble")
		first = first[:cap(first)]
		for i := range first {
			first[i] = "scribble"
		}
		want, _ := plainBounds(before, n)
		isSame(t, "the sample", sample, before)
		isSame(t, "Bounds", second, want)
		isSame(t, "Bounds once more", bounds(t, sample, n), want)
	}
}

// The texts of an answer are its own: they stay as they are when the sample's are gone.
func TestKeysAreNotKept(t *testing.T) {
	random := rand.New(rand.NewSource(1463))
	for range 500 {
		sample := randomKeys(random, 20)
		n := 1 + random.Intn(30)
		handed, all := loose(sample)
		got := bounds(t, handed, n)
		isSame(t, "the sample", handed, sample)
		spoil(all)
		want, _ := plainBounds(sample, n)
		isSame(t, "Bounds of keys that change", got, want)
	}
}

// Bounds, keys and numbers that change give other answers: nothing is kept from call to call.
func TestNothingIsKept(t *testing.T) {
	handed, all := loose(words("c f"))
	j := api.Job{Parts: 3, Bounds: handed}
	isNumber(t, "Of", Of(j, "d"), 1)
	isNumber(t, "Range", Range(handed, "d"), 1)
	all[0][0], all[1][0] = 'd', 'd'
	isNumber(t, "Of, behind a change", Of(j, "d"), 2)
	isNumber(t, "Range, behind a change", Range(handed, "d"), 2)
	all[1][0] = 'c'
	isError(t, "Check, behind a change", Check(j), api.ErrBounds)
	isNumber(t, "Of, behind a change", Of(j, "z"), 0)
	handed[1] = "f"
	isError(t, "Check, behind a change", Check(j), api.OK)
	isNumber(t, "Of, behind a change", Of(j, "z"), 2)
	key, bytes := loose(words("abc"))
	isNumber(t, "Hash", Hash(key[0], 100), plainHash("abc", 100))
	bytes[0][1] = 'x'
	isNumber(t, "Hash, behind a change", Hash(key[0], 100), plainHash("axc", 100))
}

// live tells how many bytes are held.
func live() int64 {
	runtime.GC()
	runtime.GC()
	var m runtime.MemStats
	runtime.ReadMemStats(&m)
	return int64(m.HeapAlloc)
}

// A few bounds do not hold on to the long texts that the sample's keys were cut from; many of few keys do not take a copy each.
func TestLittleIsKept(t *testing.T) {
	before := live()
	var kept [][]string
	for range 100 {
		text := strings.Repeat("text", 1<<13)
		kept = append(kept, bounds(t, []string{text[:3], text[8:10]}, 2))
	}
	if grown := live() - before; grown > 1<<20 {
		t.Errorf("with %d bounds %d bytes are kept", len(kept), grown)
	}
	runtime.KeepAlive(kept)

	before = live()
	many := bounds(t, []string{strings.Repeat("k", 1024)}, api.MaxParts)
	if grown := live() - before; grown > 8<<20 {
		t.Errorf("with %d alike bounds %d bytes are kept", len(many), grown)
	}
	runtime.KeepAlive(many)
}

// Keys may be parted by several at one time.
func TestSeveralAtOneTime(t *testing.T) {
	random := rand.New(rand.NewSource(1464))
	sample := randomKeys(random, 300)
	want, _ := plainBounds(sample, 40)
	j := api.Job{Parts: 40, Bounds: want}
	done := make(chan bool)
	for range 8 {
		go func() {
			ok := true
			for range 20 {
				got, err := Bounds(sample, 40)
				ok = ok && err == api.OK && slices.Equal(got, want) && Check(j) == api.OK
				for _, key := range sample {
					ok = ok && Of(j, key) == plainOf(j, key) && Range(want, key) == plainRange(want, key)
					ok = ok && Hash(key, 40) == plainHash(key, 40)
				}
			}
			done <- ok
		}()
	}
	for range 8 {
		if !<-done {
			t.Error("at one time another answer")
		}
	}
}
