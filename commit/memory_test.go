package commit

import (
	"fmt"
	"math/rand"
	"runtime"
	"slices"
	"strings"
	"sync"
	"testing"
	"unsafe"

	"winnow/api"
	"winnow/store"
)

// 20.5

// loose tells a text whose bytes may be changed: whoever has kept it shows that.
func loose(text string) (string, []byte) {
	b := []byte(text)
	return unsafe.String(unsafe.SliceData(b), len(b)), b
}

func spoil(all ...[]byte) {
	for _, b := range all {
		for i := range b {
			b[i] = '#'
		}
	}
}

// Neither the list, nor the room behind it, nor any text is changed, whether Commit works or not.
func TestNothingIsChanged(t *testing.T) {
	for what := range wrongs(t, store.New(), "wc") {
		for _, isWrong := range []bool{false, true} {
			s := store.New()
			reports := layAll(t, s, "wc", "one", "", "three")
			if isWrong {
				wrongs(t, s, "wc")[what](&reports[1])
			}
			all := append(slices.Clone(reports), api.Report{Name: "room"}, api.Report{Task: 7})
			before := slices.Clone(all)
			out, b := loose("wc")
			want := api.OK
			if isWrong {
				want = api.ErrPart
			}
			isError(t, what, Commit(s, out, all[:3]), want)
			isSame(t, "the reports and their room", all, before)
			Read(s, out)
			Clean(s, out)
			CheckName(out)
			if string(b) != "wc" {
				t.Fatalf("the name has become %q", b)
			}
		}
	}
}

// What was handed in may be changed behind the call: the store does not show it.
func TestNothingIsKept(t *testing.T) {
	s := store.New()
	reports := layAll(t, s, "wc", "one", "two")
	want := plainEncode(entriesBy(t, s, reports))
	var all [][]byte
	for i := range reports {
		name, b := loose(reports[i].Name)
		reports[i].Name = name
		all = append(all, b)
	}
	out, b := loose("wc")
	isError(t, "Commit", Commit(s, out, reports), api.OK)
	spoil(append(all, b)...)
	clear(reports)
	isSame(t, "the manifest", []byte(bytesOf(t, s, "wc")), []byte(want))
	reads(t, "behind a change", s, "wc", []string{"one", "two"}, api.OK)
	if list := s.List(""); len(list) != 3 || list[0].Name != "wc" {
		t.Errorf("%v", list)
	}
}

// The list is the caller's, its room too; no later answer and no other text shows what is done to it.
func TestAnswersAreNew(t *testing.T) {
	s := committed(t, "wc", "one", "two", "")
	first, _ := Read(s, "wc")
	second, _ := Read(s, "wc")
	first[0] = "changed"
	_ = append(first, "more", "and more")
	isSame(t, "another answer", second, []string{"one", "two", ""})
	reads(t, "a later answer", s, "wc", []string{"one", "two", ""}, api.OK)
	// Nor do they show what becomes of the blobs.
	isError(t, "Flip", s.Flip("wc.r1.2", 0, 0xffffffff), api.OK)
	isError(t, "Delete", s.Delete("wc.r0.2"), api.OK)
	isSame(t, "an answer behind damage", second, []string{"one", "two", ""})
}

// live tells how many bytes are held.
func live() int64 {
	runtime.GC()
	runtime.GC()
	var m runtime.MemStats
	runtime.ReadMemStats(&m)
	return int64(m.HeapAlloc)
}

// Behind the calls there is the store, and nothing else.
func TestLittleIsKept(t *testing.T) {
	s := store.New()
	text := strings.Repeat("x", 1<<20)
	reports := layAll(t, s, "wc", text, text, text, text)
	before := live()
	for range 5 {
		name := (strings.Repeat("o", 1<<20) + "wc")[1<<20:]
		isError(t, "Commit", Commit(s, name, reports), api.OK)
		if texts, err := Read(s, name); err != api.OK || len(texts) != 4 {
			t.Fatalf("%d texts, %d", len(texts), err)
		}
		Clean(s, name)
		isError(t, "Delete", s.Delete(name), api.OK)
	}
	isError(t, "Commit", Commit(s, (strings.Repeat("o", 1<<20) + "wc")[1<<20:], reports), api.OK)
	if grown := live() - before; grown > 500<<10 {
		t.Errorf("%d bytes are kept", grown)
	}
	runtime.KeepAlive(s)
}

// Outputs of many names at one time, over one store, come to the same as one behind the other.
func TestManyAtOneTime(t *testing.T) {
	random := rand.New(rand.NewSource(205))
	for range 30 {
		s := store.New()
		texts := make([][]string, 12)
		lists := make([][]api.Report, len(texts))
		for i := range texts {
			for range 1 + random.Intn(5) {
				texts[i] = append(texts[i], randomText(random))
			}
			lists[i] = layAll(t, s, fmt.Sprint("w", i), texts[i]...)
			lay(t, s, fmt.Sprint("w", i), 0, 1, "left")
		}
		got := make([][]string, len(texts))
		errs := make([]api.Errno, len(texts))
		counts := make([]int, len(texts))
		var all sync.WaitGroup
		for i := range texts {
			all.Go(func() {
				out := fmt.Sprint("w", i)
				errs[i] = Commit(s, out, lists[i])
				counts[i] = Clean(s, out)
				got[i], _ = Read(s, out)
			})
		}
		all.Wait()
		blobs := 0
		for i := range texts {
			isError(t, "Commit", errs[i], api.OK)
			isSame(t, "texts", got[i], texts[i])
			if counts[i] != 1 {
				t.Errorf("%d were deleted", counts[i])
			}
			blobs += 1 + len(texts[i])
		}
		if got := len(s.List("")); got != blobs {
			t.Errorf("%d blobs, and not %d", got, blobs)
		}
	}
}
