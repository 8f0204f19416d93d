package commit

import (
	"fmt"
	"math"
	"slices"
	"strings"
	"testing"

	"winnow/api"
	"winnow/store"
)

// 20.4

func TestCleanOfNothing(t *testing.T) {
	if got := Clean(nil, "wc"); got != 0 {
		t.Errorf("a nil store: %d", got)
	}
	if got := Clean(nil, ""); got != 0 {
		t.Errorf("a nil store, and no name: %d", got)
	}
	cleans(t, "an empty store", store.New(), "wc", 0)
}

// No name of an output: nothing is deleted, even though there are blobs of that name.
func TestCleanOfNoName(t *testing.T) {
	s := store.New()
	names := []string{"9a", "9a.r0.1", "-a", "-a.r0.1", "a.b", "a.b.r0.1", "abcdefghijklm", "abcdefghijklm.r0.1", ".r0.1"}
	for i, name := range names {
		put(t, s, name, "left", i%2 == 1)
	}
	for _, out := range []string{"", "9a", "-a", "a.b", "abcdefghijklm", "A", "."} {
		cleans(t, out, s, out, 0, names...)
	}
}

// leavings are what may lie about of an output wc.
func leavings() []string {
	return []string{
		"wc.", "wc.r", "wc.r0", "wc.r0.", "wc.r0.0", "wc.r0.1", "wc.r0.3", "wc.r0.20", "wc.r0.02", "wc.r00.2", "wc.r2.2", "wc.r10.2", "wc.r65535.2",
		"wc.m0.1", "wc.m0.2", "wc.m1.2", "wc.m0.1.1", "wc.x", "wc..", "wc.r0.2.1", "wc.r0.2-", "wc.r-1.2", "wc.wc", "wc.r1.200",
	}
}

// beside are blobs of other outputs, and of none, whose names begin alike.
func beside() []string {
	return []string{"w", "wc-", "wc-.r0.2", "wc-1", "wc-1.r0.2", "wc0", "wc0.r0.2", "wcc", "wcc.r0.2", "wcwc.r0.2", "a.wc.r0.2", "-wc.", "0wc.r0.2", "w.wc.r0.2", "xwc.r0.2", "zz.r0.2"}
}

// scatter leaves leavings and others, every other one open.
func scatter(t *testing.T, s *store.Store) {
	t.Helper()
	for i, name := range slices.Concat(leavings(), beside()) {
		put(t, s, name, "left "+name, i%2 == 0)
	}
}

// 20.4, 20.8, 20.10

func TestCleanWithManifest(t *testing.T) {
	texts := []string{"one", ""}
	s := committed(t, "wc", texts...)
	scatter(t, s)
	left := append(beside(), "wc", "wc.r0.2", "wc.r1.2")
	reads(t, "ahead of Clean", s, "wc", texts, api.OK)
	cleans(t, "Clean", s, "wc", len(leavings()), left...)
	reads(t, "behind Clean", s, "wc", texts, api.OK)
	cleans(t, "once more", s, "wc", 0, left...)
	reads(t, "behind both", s, "wc", texts, api.OK)
	list := s.List("wc.")
	if len(list) != 2 || list[0].Name != "wc.r0.2" || list[1].Name != "wc.r1.2" {
		t.Errorf("%v", list)
	}
}

func TestCleanWithoutManifest(t *testing.T) {
	for state, lay := range map[string]func(s *store.Store){
		"none":    func(s *store.Store) {},
		"open":    func(s *store.Store) { put(t, s, "wc", "", false) },
		"to stop": func(s *store.Store) { put(t, s, "wc", "", false); s.StopAt("wc", 9) },
		"stopped": func(s *store.Store) { put(t, s, "wc", "x", false); s.StopAt("wc", 0); s.Publish("wc") },
		"whole, and not published": func(s *store.Store) {
			put(t, s, "wc", plainEncode([]plainEntry{{2, 3, 0, plainSum([]byte("one"))}, {2, 0, 0, 0}}), false)
		},
	} {
		s := store.New()
		layAll(t, s, "wc", "one", "")
		scatter(t, s)
		lay(s)
		want := len(leavings()) + 2
		if state != "none" {
			want++
		}
		cleans(t, state, s, "wc", want, beside()...)
		cleans(t, state+", once more", s, "wc", 0, beside()...)
		isError(t, state, plainReadError(s, "wc"), api.ErrNoBlob)
		// And the name is free.
		reports := layAll(t, s, "wc", "one", "")
		isError(t, state, Commit(s, "wc", reports), api.OK)
		reads(t, state+", and another Commit", s, "wc", []string{"one", ""}, api.OK)
	}
}

// What is published under the name, and no manifest, stays; all parts go.
func TestCleanWithDamage(t *testing.T) {
	for what, harm := range map[string]func(s *store.Store) api.Errno{
		"a bit":       func(s *store.Store) api.Errno { return s.Flip("wc", 40, 1) },
		"a byte less": func(s *store.Store) api.Errno { return s.Resize("wc", -1) },
		"a byte more": func(s *store.Store) api.Errno { return s.Resize("wc", 1) },
		"no bytes":    func(s *store.Store) api.Errno { return s.Resize("wc", -int64(look(s, "wc").Size)) },
		"no parts": func(s *store.Store) api.Errno {
			s.Delete("wc")
			put(t, s, "wc", sealed("wnm1\x00"), true)
			return api.OK
		},
		"a byte behind the parts": func(s *store.Store) api.Errno {
			tile := bytesOf(t, s, "wc")
			s.Delete("wc")
			put(t, s, "wc", sealed(tile[:len(tile)-4]+"\x00"), true)
			return api.OK
		},
		"fewer parts than are told": func(s *store.Store) api.Errno {
			tile := bytesOf(t, s, "wc")
			s.Delete("wc")
			put(t, s, "wc", sealed("wnm1\x03"+tile[5:len(tile)-4]), true)
			return api.OK
		},
	} {
		s := committed(t, "wc", "one", "")
		scatter(t, s)
		isError(t, what, harm(s), api.OK)
		left := append(beside(), "wc")
		cleans(t, what, s, "wc", len(leavings())+2, left...)
		cleans(t, what+", once more", s, "wc", 0, left...)
		reads(t, what, s, "wc", nil, api.ErrManifest)
	}
}

// What is wrong with the parts is no matter: they are kept, if the manifest names them.
func TestCleanDoesNotLookAtParts(t *testing.T) {
	s := committed(t, "wc", "one", "two", "three", "four")
	isError(t, "Flip", s.Flip("wc.r0.2", 3, 1), api.OK)
	isError(t, "Resize", s.Resize("wc.r1.2", 3), api.OK)
	isError(t, "Delete", s.Delete("wc.r2.2"), api.OK)
	isError(t, "Delete", s.Delete("wc.r3.2"), api.OK)
	put(t, s, "wc.r3.2", "four", false)
	put(t, s, "wc.r3.1", "four", true)
	cleans(t, "damaged parts", s, "wc", 1, "wc", "wc.r0.2", "wc.r1.2", "wc.r3.2")
	reads(t, "behind Clean", s, "wc", nil, api.ErrPart)
}

// Clean reads the manifest, and nothing else.
func TestWhatCleanReads(t *testing.T) {
	s := committed(t, "wc", "one", "two")
	size := int64(look(s, "wc").Size)
	before := s.Meter()
	Clean(s, "wc")
	if got := s.Meter(); got.Reads != before.Reads+1 || got.Bytes != before.Bytes+size {
		t.Errorf("it has read %+v, behind %+v", got, before)
	}
	s = store.New()
	layAll(t, s, "wc", "one")
	put(t, s, "wc", "open", false)
	Clean(s, "wc")
	if got := s.Meter(); got != (api.Meter{}) {
		t.Errorf("without a manifest: %+v", got)
	}
}

// The attempts that a manifest names may be any.
func TestCleanOfAnyAttempts(t *testing.T) {
	for _, attempt := range []int{0, 1, 9, 10, 127, 128, 1 << 31, 1<<32 + 1, math.MaxInt} {
		s := store.New()
		reports := []api.Report{lay(t, s, "wc", 0, attempt, "text")}
		for _, other := range []int{0, 1, 9, 10, 127, 128, 1 << 31, 1<<32 + 1, math.MaxInt} {
			if other != attempt {
				lay(t, s, "wc", 0, other, "other")
			}
		}
		isError(t, "Commit", Commit(s, "wc", reports), api.OK)
		cleans(t, fmt.Sprint(attempt), s, "wc", 8, "wc", plainName("wc", 0, attempt))
	}
}

// Outputs whose names begin alike, each with a manifest: to clean one of them leaves the others.
func TestCleanOfManyOutputs(t *testing.T) {
	outs := []string{"w", "wc", "wc-", "wc-1", "wc1", "wcc", "wccccccccccc", "c"}
	s := store.New()
	texts := map[string][]string{}
	var blobs []string
	for i, out := range outs {
		texts[out] = strings.Split(strings.Repeat("x", i), "")
		if i == 0 {
			texts[out] = []string{""}
		}
		isError(t, "Commit", Commit(s, out, layAll(t, s, out, texts[out]...)), api.OK)
		blobs = append(blobs, out)
		for task := range texts[out] {
			blobs = append(blobs, plainName(out, task, 2))
		}
		put(t, s, out+".r0.1", "left", i%2 == 0)
	}
	for i, out := range outs {
		left := slices.Clone(blobs)
		for _, other := range outs[i+1:] {
			left = append(left, other+".r0.1")
		}
		cleans(t, out, s, out, 1, left...)
		for _, other := range outs {
			reads(t, other+" behind Clean of "+out, s, other, texts[other], api.OK)
		}
	}
}

// 20.10: blobs of others are neither read nor deleted by any call, and what they are is no matter.
func TestOthers(t *testing.T) {
	for i := range 2 {
		s := store.New()
		for _, name := range beside() {
			put(t, s, name, strings.Repeat("x", 1+1000*i), i == 1)
		}
		before := allOf(t, s)
		m := s.Meter()
		reports := layAll(t, s, "wc", "one", "two")
		put(t, s, "wc.r1.1", "left", true)
		isError(t, "Commit", Commit(s, "wc", reports), api.OK)
		reads(t, "wc", s, "wc", []string{"one", "two"}, api.OK)
		if got := Clean(s, "wc"); got != 1 {
			t.Errorf("%d were deleted", got)
		}
		size := int64(look(s, "wc").Size)
		if got := s.Meter(); got.Bytes-m.Bytes != 2*6+2*size || got.Reads-m.Reads != 2*2+2 {
			t.Errorf("%+v was read, behind %+v", got, m)
		}
		for _, name := range []string{"wc", "wc.r0.2", "wc.r1.2"} {
			isError(t, "Delete", s.Delete(name), api.OK)
		}
		isSame(t, "the others", allOf(t, s), before)
	}
}
