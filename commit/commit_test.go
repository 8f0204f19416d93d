package commit

import (
	"fmt"
	"math"
	"math/rand"
	"runtime"
	"slices"
	"strings"
	"sync"
	"sync/atomic"
	"testing"

	"winnow/api"
	"winnow/store"
)

// The manifest's bytes.

func TestBytesByHand(t *testing.T) {
	s := store.New()
	reports := []api.Report{lay(t, s, "wc", 0, 1, "a\t2\n"), lay(t, s, "wc", 1, 300, ""), lay(t, s, "wc", 2, 0, "123456789")}
	reports[2].Records = 128
	isError(t, "Commit", Commit(s, "wc", reports), api.OK)
	want := sealed("wnm1\x03" +
		"\x01\x04\x01" + "\xfd\x0c\x58\x78" +
		"\xac\x02\x00\x00" + "\x00\x00\x00\x00" +
		"\x00\x09\x80\x01" + "\x83\x92\x06\xe3")
	isSame(t, "the manifest", []byte(bytesOf(t, s, "wc")), []byte(want))
}

// commits commits reports, and holds the manifest and all that is there against what the document says.
func commits(t *testing.T, what string, s *store.Store, out string, reports []api.Report) {
	t.Helper()
	before := allOf(t, s)
	isError(t, what, Commit(s, out, reports), api.OK)
	tile := plainEncode(entriesBy(t, s, reports))
	isSame(t, "the manifest of "+what, []byte(bytesOf(t, s, out)), []byte(tile))
	before = append(before, seen{info: api.BlobInfo{Name: out, State: api.BlobOut, Size: len(tile)}, text: tile})
	slices.SortFunc(before, func(a, b seen) int { return strings.Compare(a.info.Name, b.info.Name) })
	isSame(t, "blobs behind "+what, allOf(t, s), before)
}

// Numbers of one byte and of many, up to the greatest.
func TestNumbersOfManifests(t *testing.T) {
	edges := []int64{0, 1, 127, 128, 255, 256, 16383, 16384, 1 << 21, 1<<31 - 1, 1 << 32, 1<<56 - 1, 1 << 56, math.MaxInt64 - 1, math.MaxInt64}
	for _, attempt := range edges {
		for _, records := range edges {
			s := store.New()
			report := lay(t, s, "wc", 0, int(attempt), "text\n")
			report.Records = records
			commits(t, fmt.Sprint(attempt, records), s, "wc", []api.Report{report})
			reads(t, fmt.Sprint(attempt, records), s, "wc", []string{"text\n"}, api.OK)
		}
	}
	for _, length := range []int{0, 1, 127, 128, 16383, 16384, 1 << 20} {
		s := store.New()
		text := strings.Repeat("k", length)
		commits(t, fmt.Sprint("length ", length), s, "wc", layAll(t, s, "wc", "", text, text))
		reads(t, fmt.Sprint("length ", length), s, "wc", []string{"", text, text}, api.OK)
	}
}

func TestNumbersOfParts(t *testing.T) {
	for _, count := range []int{1, 2, 3, 10, 11, 127, 128, 129, 300} {
		s := store.New()
		var texts []string
		for task := range count {
			texts = append(texts, strings.Repeat(fmt.Sprint(task, "\n"), task%5))
		}
		commits(t, fmt.Sprint(count), s, "a-long-name1", layAll(t, s, "a-long-name1", texts...))
		reads(t, fmt.Sprint(count), s, "a-long-name1", texts, api.OK)
	}
}

// As many parts as may be, and one more; what is wrong with one of them, the last one too, is told.
func TestMostParts(t *testing.T) {
	s := store.New()
	var texts []string
	for task := range 65535 {
		texts = append(texts, fmt.Sprintf("%x", task)[:task%2])
	}
	reports := layAll(t, s, "wc", texts...)
	more := append(slices.Clone(reports), lay(t, s, "wc", 65535, 2, ""))
	isError(t, "one more", Commit(s, "wc", more), api.ErrArg)
	for _, task := range []int{0, 40000, 65534} {
		wrong := slices.Clone(reports)
		wrong[task].Records = -1
		isError(t, "a wrong one", Commit(s, "wc", wrong), api.ErrPart)
	}
	isError(t, "Commit", Commit(s, "wc", reports), api.OK)
	tile := plainEncode(entriesBy(t, s, reports))
	isSame(t, "the manifest", []byte(bytesOf(t, s, "wc")), []byte(tile))
	reads(t, "the most parts", s, "wc", texts, api.OK)
	if got := Clean(s, "wc"); got != 1 {
		t.Errorf("%d were deleted", got)
	}
	if got := len(s.List("")); got != 65536 {
		t.Errorf("%d blobs are left", got)
	}
}

// 20.2: wrong reports

// wrongs tells what may be wrong with the report of a task in a store, and does it there.
func wrongs(t *testing.T, s *store.Store, out string) map[string]func(r *api.Report) {
	t.Helper()
	return map[string]func(r *api.Report){
		"Task one more":     func(r *api.Report) { r.Task++ },
		"Task one less":     func(r *api.Report) { r.Task-- },
		"Task far away":     func(r *api.Report) { r.Task += 1 << 32 },
		"Task the least":    func(r *api.Report) { r.Task = math.MinInt },
		"Attempt below 0":   func(r *api.Report) { r.Attempt = -1 },
		"Attempt the least": func(r *api.Report) { r.Attempt = math.MinInt },
		"Attempt below 0, its Name by its words": func(r *api.Report) {
			r.Attempt = -1
			r.Name = plainName(out, r.Task, -1)
		},
		"Attempt below 0, no Name": func(r *api.Report) {
			r.Attempt = -1
			r.Name = ""
		},
		"Attempt of another part": func(r *api.Report) { r.Attempt++ },
		"Name of another attempt": func(r *api.Report) {
			other := lay(t, s, out, r.Task, r.Attempt+1, "other")
			r.Name, r.Length = other.Name, other.Length
		},
		"Name of another task": func(r *api.Report) {
			other := lay(t, s, out, r.Task+1000, r.Attempt, "other")
			r.Name, r.Length = other.Name, other.Length
		},
		"Name of another output": func(r *api.Report) {
			other := lay(t, s, "other", r.Task, r.Attempt, "other")
			r.Name, r.Length = other.Name, other.Length
		},
		"Name of a map task": func(r *api.Report) {
			r.Name = strings.Replace(r.Name, ".r", ".m", 1)
			put(t, s, r.Name, strings.Repeat("x", int(r.Length)), true)
		},
		"Name with a number that has a zero ahead": func(r *api.Report) {
			r.Name = fmt.Sprintf("%s.r%d.0%d", out, r.Task, r.Attempt)
			put(t, s, r.Name, strings.Repeat("x", int(r.Length)), true)
		},
		"no Name":             func(r *api.Report) { r.Name = "" },
		"Name that is none":   func(r *api.Report) { r.Name = strings.ToUpper(r.Name) },
		"Name, and more":      func(r *api.Report) { r.Name += "1" },
		"Name, and less":      func(r *api.Report) { r.Name = r.Name[:len(r.Name)-1] },
		"Records below 0":     func(r *api.Report) { r.Records = -1 },
		"Records the least":   func(r *api.Report) { r.Records = math.MinInt64 },
		"Length one more":     func(r *api.Report) { r.Length++ },
		"Length one less":     func(r *api.Report) { r.Length-- },
		"Length below 0":      func(r *api.Report) { r.Length = -1 },
		"Length the least":    func(r *api.Report) { r.Length = math.MinInt64 },
		"Length the greatest": func(r *api.Report) { r.Length = math.MaxInt64 },
		"Length modulo 2^32":  func(r *api.Report) { r.Length += 1 << 32 },
		"a part that is longer": func(r *api.Report) {
			isError(t, "Resize", s.Resize(r.Name, 1), api.OK)
		},
		"a part that is not there": func(r *api.Report) {
			isError(t, "Delete", s.Delete(r.Name), api.OK)
		},
		"a part that is not there, without a length": func(r *api.Report) {
			isError(t, "Delete", s.Delete(r.Name), api.OK)
			r.Length = 0
		},
		"a part that is not published": func(r *api.Report) {
			isError(t, "Delete", s.Delete(r.Name), api.OK)
			put(t, s, r.Name, strings.Repeat("x", int(r.Length)), false)
		},
		"an open part, without a length": func(r *api.Report) {
			isError(t, "Delete", s.Delete(r.Name), api.OK)
			put(t, s, r.Name, strings.Repeat("x", int(r.Length)), false)
			r.Length = 0
		},
		"a report of zeros": func(r *api.Report) { *r = api.Report{} },
		"the next task's report": func(r *api.Report) {
			*r = lay(t, s, out, r.Task+1000, r.Attempt, "")
		},
		"the part of another attempt": func(r *api.Report) { r.Name = plainName(out, r.Task, r.Attempt+1) },
	}
}

// Each thing that may be wrong with a report, at each place, alone and with another one behind it.
func TestWrongReports(t *testing.T) {
	texts := []string{"a\t1\n", "", "some\ttext\n", "last"}
	for what := range wrongs(t, store.New(), "wc") {
		for task := range texts {
			s := store.New()
			reports := layAll(t, s, "wc", texts...)
			wrongs(t, s, "wc")[what](&reports[task])
			refuses(t, fmt.Sprint(what, " of ", task), s, "wc", reports, api.ErrPart)
			isError(t, "Read", plainReadError(s, "wc"), api.ErrNoBlob)
		}
	}
}

// plainReadError tells Read's error alone.
func plainReadError(s *store.Store, out string) api.Errno {
	_, err := Read(s, out)
	return err
}

// What is wrong can be mended: then the same call works.
func TestMended(t *testing.T) {
	s := store.New()
	reports := layAll(t, s, "wc", "one", "two")
	isError(t, "Delete", s.Delete(reports[1].Name), api.OK)
	refuses(t, "a part that is not there", s, "wc", reports, api.ErrPart)
	put(t, s, reports[1].Name, "six", false)
	refuses(t, "an open part", s, "wc", reports, api.ErrPart)
	isError(t, "Publish", s.Publish(reports[1].Name), api.OK)
	commits(t, "a published part", s, "wc", reports)
	reads(t, "mended", s, "wc", []string{"one", "six"}, api.OK)
}

// Whatever Dropped is, and whatever Records say of the bytes, is not looked at.
func TestWhatIsNotLookedAt(t *testing.T) {
	for _, dropped := range []int64{0, 1, -1, math.MinInt64, math.MaxInt64} {
		s := store.New()
		reports := layAll(t, s, "wc", "one\n", "")
		reports[0].Dropped, reports[1].Dropped = dropped, -dropped
		reports[0].Records, reports[1].Records = 7, 9
		commits(t, fmt.Sprint("Dropped ", dropped), s, "wc", reports)
		reads(t, "Dropped", s, "wc", []string{"one\n", ""}, api.OK)
	}
}

// Only the parts that are named have to be right.
func TestOtherBlobsAreNotLookedAt(t *testing.T) {
	s := store.New()
	reports := layAll(t, s, "wc", "one", "two")
	put(t, s, "wc.r0.1", "open", false)
	put(t, s, "wc.r0.9", "left", true)
	put(t, s, "wc.r2.1", "no such task", true)
	put(t, s, "wc.m0.1", "spill", true)
	put(t, s, "wcx", "other", true)
	put(t, s, "w", "other", true)
	put(t, s, "wc-", "other", false)
	commits(t, "with others beside", s, "wc", reports)
	reads(t, "with others beside", s, "wc", []string{"one", "two"}, api.OK)
}

// 20.2: which error is ahead of which

func TestOrderOfErrors(t *testing.T) {
	names := map[string]api.Errno{"wc": api.OK, "taken": api.OK, "9a": api.ErrName, "": api.ErrName, "abcdefghijklm": api.ErrName, "a.b": api.ErrName}
	for out, nameErr := range names {
		s := store.New()
		put(t, s, "taken", "", true)
		base := out
		if nameErr != api.OK {
			base = "wc"
		}
		right := layAll(t, s, base, "one", "two")
		wrong := slices.Clone(right)
		wrong[1].Length++
		lists := map[string][]api.Report{"nil": nil, "empty": {}, "right": right, "wrong": wrong, "too many": make([]api.Report, 65536), "many": make([]api.Report, 65535)}
		for which, list := range lists {
			what := fmt.Sprintf("%q, %s", out, which)
			isError(t, "nil, "+what, Commit(nil, out, list), api.ErrNil)
			switch {
			case nameErr != api.OK:
				refuses(t, what, s, out, list, api.ErrName)
			case len(list) == 0 || len(list) == 65536:
				refuses(t, what, s, out, list, api.ErrArg)
			case out == "taken":
				refuses(t, what, s, out, list, api.ErrExists)
			case which != "right":
				refuses(t, what, s, out, list, api.ErrPart)
			}
		}
	}
}

// 20.2, 20.7

// Whatever stands under the name, in whichever state.
func TestTaken(t *testing.T) {
	for state, make := range map[string]func(s *store.Store) api.Errno{
		"open":      func(s *store.Store) api.Errno { return api.OK },
		"to stop":   func(s *store.Store) api.Errno { return s.StopAt("wc", 9) },
		"stopped":   func(s *store.Store) api.Errno { s.StopAt("wc", 0); s.Append("wc", []byte("x")); return api.OK },
		"published": func(s *store.Store) api.Errno { return s.Publish("wc") },
		"junk":      func(s *store.Store) api.Errno { s.Append("wc", []byte("junk")); return s.Publish("wc") },
	} {
		s := store.New()
		reports := layAll(t, s, "wc", "one", "two")
		isError(t, "Create", s.Create("wc"), api.OK)
		isError(t, state, make(s), api.OK)
		refuses(t, state, s, "wc", reports, api.ErrExists)
		refuses(t, state+", and no parts", s, "wc", nil, api.ErrArg)
		isError(t, "Delete", s.Delete("wc"), api.OK)
		commits(t, state+", and deleted", s, "wc", reports)
	}
}

func TestSecondCommit(t *testing.T) {
	s := store.New()
	reports := layAll(t, s, "wc", "one", "two")
	commits(t, "the first", s, "wc", reports)
	refuses(t, "the second", s, "wc", reports, api.ErrExists)
	refuses(t, "fewer parts", s, "wc", reports[:1], api.ErrExists)
	other := slices.Clone(reports)
	other[0] = lay(t, s, "wc", 0, 3, "other")
	refuses(t, "other parts", s, "wc", other, api.ErrExists)
	isError(t, "Flip", s.Flip("wc", 5, 1), api.OK)
	refuses(t, "behind damage", s, "wc", reports, api.ErrExists)
	isError(t, "Flip", s.Flip("wc", 5, 1), api.OK)
	reads(t, "behind all of them", s, "wc", []string{"one", "two"}, api.OK)
	commits(t, "another name", s, "wd", layAll(t, s, "wd", "three"))
}

// A blob whose name merely begins so is none of that name.
func TestNamesThatBeginAlike(t *testing.T) {
	s := store.New()
	put(t, s, "w", "", true)
	put(t, s, "wc-", "", true)
	put(t, s, "wc.", "", true)
	put(t, s, "wc0", "", true)
	put(t, s, "wcc", "", false)
	commits(t, "wc", s, "wc", layAll(t, s, "wc", "text"))
}

// 20.2: the store's errors

// Somebody creates the blob while the parts are read: that is told, and it is left as it is.
func TestCreateFails(t *testing.T) {
	text := strings.Repeat("x", 1<<16)
	for range 30 {
		s := store.New()
		var reports []api.Report
		for task := range 300 {
			reports = append(reports, lay(t, s, "wc", task, 1, text))
		}
		done := make(chan api.Errno, 1)
		go func() { done <- Commit(s, "wc", reports) }()
		for s.Meter().Reads == 0 && len(done) == 0 {
			runtime.Gosched()
		}
		created := s.Create("wc")
		err := <-done
		if created != api.OK {
			isError(t, "Commit was quicker", err, api.OK)
			continue
		}
		isError(t, "Commit", err, api.ErrExists)
		if b := look(s, "wc"); b.State != api.BlobOpen || b.Size != 0 {
			t.Errorf("somebody else's blob: %+v", b)
		}
		return
	}
	t.Error("Commit was quicker each time")
}

// ending is how a Commit ends, and what is there of the manifest behind it.
type ending struct {
	err   api.Errno
	state int
	size  int
}

// Somebody does something to the blob as soon as it is there: be it ahead of the Append, of the Publish or behind it, the first error is told, and the blob is left as it stands.
func TestAppendOrPublishFails(t *testing.T) {
	const whole = 4 + 1 + 7 + 4
	well := ending{api.OK, 2, whole} // it was too late
	for what, harm := range map[string]struct {
		do   func(s *store.Store) api.Errno
		ends []ending
	}{
		"StopAt 0":   {func(s *store.Store) api.Errno { return s.StopAt("wc", 0) }, []ending{{api.ErrStopped, 1, 0}, {api.ErrStopped, 1, whole}}},
		"StopAt 5":   {func(s *store.Store) api.Errno { return s.StopAt("wc", 5) }, []ending{{api.ErrStopped, 1, 5}, {api.ErrStopped, 1, whole}}},
		"StopAt 999": {func(s *store.Store) api.Errno { return s.StopAt("wc", 999) }, []ending{{api.ErrStopped, 1, whole}}},
		"Delete":     {func(s *store.Store) api.Errno { return s.Delete("wc") }, []ending{{api.OK, 0, 0}, {api.ErrNoBlob, 0, 0}}},
		"Publish":    {func(s *store.Store) api.Errno { return s.Publish("wc") }, []ending{{api.ErrOut, 2, 0}, {api.ErrOut, 2, whole}}},
	} {
		missing := slices.Clone(harm.ends)
		for tries := 0; tries < 3000 && len(missing) > 0; tries++ {
			s := store.New()
			reports := layAll(t, s, "wc", "text")
			var isOver atomic.Bool
			var other sync.WaitGroup
			other.Go(func() {
				for harm.do(s) == api.ErrNoBlob && !isOver.Load() {
				}
			})
			runtime.Gosched()
			err := Commit(s, "wc", reports)
			isOver.Store(true)
			other.Wait()
			b := look(s, "wc")
			got := ending{err, b.State, b.Size}
			if got != well && !slices.Contains(harm.ends, got) {
				t.Fatalf("%s: %+v", what, got)
			}
			missing = slices.DeleteFunc(missing, func(e ending) bool { return e == got })
		}
		if len(missing) > 0 {
			t.Logf("%s: not seen: %+v", what, missing)
		}
	}
}

// Commits of one name at one time: one of them works, the others tell ErrExists, and what is committed are the parts of the one.
func TestCommitsAtOneTime(t *testing.T) {
	random := rand.New(rand.NewSource(202))
	for range 100 {
		s := store.New()
		lists := make([][]api.Report, 8)
		for i := range lists {
			for task := range 1 + random.Intn(4) {
				lists[i] = append(lists[i], lay(t, s, "wc", task, i, fmt.Sprint(i, task)))
			}
		}
		errs := make(chan [2]int)
		for i, list := range lists {
			go func() { errs <- [2]int{i, int(Commit(s, "wc", list))} }()
		}
		works := -1
		for range lists {
			got := <-errs
			if api.Errno(got[1]) == api.OK && works < 0 {
				works = got[0]
				continue
			}
			isError(t, "one that is too late", api.Errno(got[1]), api.ErrExists)
		}
		if works < 0 {
			t.Fatal("none has worked")
		}
		isSame(t, "the manifest", []byte(bytesOf(t, s, "wc")), []byte(plainEncode(entriesBy(t, s, lists[works]))))
	}
}
