package maptask

import (
	"fmt"
	"math"
	"math/rand"
	"slices"
	"strings"
	"testing"

	"winnow/api"
	"winnow/store"
)

// 17.2

func records(l ...api.Record) []api.Record { return l }

func rec(part int, key, value string) api.Record {
	return api.Record{Part: part, Key: key, Value: value}
}

// The chapter's first example.
func TestOneMapTask(t *testing.T) {
	a := example("a b a")
	// By hash: both keys have their sums.
	partA, partB := plainPart(a.job, "a"), plainPart(a.job, "b")
	s := store.New()
	report, err := a.run(s)
	isError(t, "Run", err, api.OK)
	isSame(t, "blobs", s.List(""), []api.BlobInfo{{Name: "wc.m0.1", State: api.BlobOpen, Size: int(report.Length)}})
	if want := (api.Report{Task: 0, Attempt: 1, Name: "wc.m0.1", Length: report.Length, Records: 3}); report != want {
		t.Fatalf("%+v, and not %+v", report, want)
	}
	again, err := a.run(s)
	isError(t, "the same numbers once more", err, api.ErrExists)
	if again != (api.Report{}) {
		t.Fatalf("beside ErrExists: %+v", again)
	}
	a.number = 2
	second, err := a.run(s)
	isError(t, "another attempt", err, api.OK)
	if second.Name != "wc.m0.2" || second.Attempt != 2 || second.Length != report.Length || second.Records != 3 {
		t.Fatalf("another attempt: %+v", second)
	}
	s.Publish("wc.m0.1")
	s.Publish("wc.m0.2")
	isSame(t, "the same bytes", bytesOf(t, s, "wc.m0.2"), bytesOf(t, s, "wc.m0.1"))

	want := records(rec(partA, "a", "1"), rec(partA, "a", "1"), rec(partB, "b", "1"))
	combined := records(rec(partA, "a", "2"), rec(partB, "b", "1"))
	if partB < partA {
		want = records(want[2], want[0], want[1])
		combined = records(combined[1], combined[0])
	}
	a.holds(t, 0, want...)
	a.job.Combine = true
	a.holds(t, 0, combined...)
}

// The second example, and stops around the spill's end.
func TestStopsOfTheExample(t *testing.T) {
	whole, _ := example("a b a").works(t)
	length := whole.Length
	for _, c := range []struct{ at, size int64 }{
		{10, 10}, {0, 0}, {1, 1}, {-1, 0}, {-3, 0}, {math.MinInt64, 0},
		{length - 1, length - 1}, {length, length}, {length + 1, length}, {1 << 40, length}, {math.MaxInt64, length},
	} {
		s := store.New()
		report, err := example("a b a").stoppedAt(c.at).run(s)
		isError(t, fmt.Sprintf("a stop at %d", c.at), err, api.ErrStopped)
		if report != (api.Report{}) {
			t.Fatalf("beside ErrStopped: %+v", report)
		}
		isSame(t, fmt.Sprintf("a stop at %d", c.at), s.List(""), []api.BlobInfo{{Name: "wc.m0.1", State: api.BlobOpen, Size: int(c.size)}})
		isError(t, "Publish", s.Publish("wc.m0.1"), api.ErrStopped)
	}
}

// Without stops a place says nothing.
func TestPlaceWithoutStop(t *testing.T) {
	want := example("a b a").bytes(t)
	for _, at := range []int64{math.MinInt64, -1, 1, 10, math.MaxInt64} {
		a := example("a b a")
		a.at = at
		isSame(t, fmt.Sprintf("the place %d", at), a.bytes(t), want)
	}
}

// The third example.
func TestRefusalsOfTheExample(t *testing.T) {
	example(strings.Repeat("a", 65537)).refuses(t, api.ErrLong)
	a := example("a b a")
	a.task = 256
	a.refuses(t, api.ErrArg)
	a = example("a b a")
	a.job.Kind = 9
	a.refuses(t, api.ErrJob)
}

// What each kind gives, in whole words.
func TestKinds(t *testing.T) {
	full, more := strings.Repeat("w", 1024), strings.Repeat("w", 1025)
	for _, c := range []struct {
		kind     int
		text     string
		dropped  int64
		want     []api.Record
		combined []api.Record
	}{
		{api.JobCount, "b a\n\nb, b-c\n", 0,
			records(rec(0, "a", "1"), rec(0, "b", "1"), rec(0, "b", "1"), rec(0, "b", "1"), rec(0, "c", "1")),
			records(rec(0, "a", "1"), rec(0, "b", "3"), rec(0, "c", "1"))},
		{api.JobCount, more + " " + full + " " + more + "\n" + more, 3,
			records(rec(0, full, "1")),
			records(rec(0, full, "1"))},
		{api.JobIndex, "b a b\na\n" + more, 1,
			records(rec(0, "a", "1000"), rec(0, "a", "1006"), rec(0, "b", "1000"), rec(0, "b", "1000")),
			records(rec(0, "a", "1000"), rec(0, "a", "1006"), rec(0, "b", "1000"), rec(0, "b", "1000"))},
		{api.JobSum, "k\t2\nj\t9223372036854775807\nk\t-5\nno\nk\t007\nj\t1\n" + more + "\t1\n" + full + "\t1\n\t4", 3,
			records(rec(0, "", "4"), rec(0, "j", "9223372036854775807"), rec(0, "j", "1"), rec(0, "k", "2"), rec(0, "k", "-5"), rec(0, full, "1")),
			records(rec(0, "", "4"), rec(0, "j", "-9223372036854775808"), rec(0, "k", "-3"), rec(0, full, "1"))},
		{api.JobSort, "k\tz\nk\ta\ty\nj\n\nk\t" + full + "\nk\t" + more + "\n" + more, 2,
			records(rec(0, "", ""), rec(0, "j", ""), rec(0, "k", "z"), rec(0, "k", "a\ty"), rec(0, "k", full)),
			records(rec(0, "", ""), rec(0, "j", ""), rec(0, "k", "z"), rec(0, "k", "a\ty"), rec(0, "k", full))},
		{api.JobDistinct, "k\tz\nk\nk\tz\n\n\n" + full + "\n" + more + "\nk", 1,
			records(rec(0, "", ""), rec(0, "", ""), rec(0, "k", ""), rec(0, "k", ""), rec(0, "k\tz", ""), rec(0, "k\tz", ""), rec(0, full, "")),
			records(rec(0, "", ""), rec(0, "k", ""), rec(0, "k\tz", ""), rec(0, full, ""))},
	} {
		a := example(c.text)
		a.split.Offset = 1000
		a.job.Kind, a.job.Parts = c.kind, 1
		a.holds(t, c.dropped, c.want...)
		a.job.Combine = true
		a.holds(t, c.dropped, c.combined...)
	}
}

// Keys go to the partitions that they have, and those stand in order.
func TestPartitions(t *testing.T) {
	for _, combine := range []bool{false, true} {
		a := example("d c b a b\nzz ca c b d")
		a.job.Combine = combine
		a.job.Kind = api.JobIndex
		a.job.Parts, a.job.Bounds = 4, []string{"b", "c", "f"}
		a.holds(t, 0,
			rec(0, "a", "0"),
			rec(1, "b", "0"), rec(1, "b", "0"), rec(1, "b", "10"),
			rec(2, "c", "0"), rec(2, "c", "10"), rec(2, "ca", "10"), rec(2, "d", "0"), rec(2, "d", "10"),
			rec(3, "zz", "10"))
		a.job.Parts, a.job.Bounds = 3, []string{"", ""}
		a.split.Text = "b a"
		a.holds(t, 0, rec(2, "a", "0"), rec(2, "b", "0"))
	}
}

// Places are the split's own and the lines', added up; near the end they wrap.
func TestOffsets(t *testing.T) {
	a := example("a\n\na\na")
	a.job.Kind, a.job.Parts = api.JobIndex, 1
	for _, c := range []struct {
		offset int64
		want   []string
	}{
		{0, []string{"0", "3", "5"}},
		{100, []string{"100", "103", "105"}},
		{-4, []string{"-4", "-1", "1"}},
		{math.MaxInt64 - 3, []string{"9223372036854775804", "9223372036854775807", "-9223372036854775807"}},
		{math.MinInt64, []string{"-9223372036854775808", "-9223372036854775805", "-9223372036854775803"}},
	} {
		a.split.Offset = c.offset
		a.holds(t, 0, rec(0, "a", c.want[0]), rec(0, "a", c.want[1]), rec(0, "a", c.want[2]))
	}
}

// One thing that an attempt may not have, and the error that this is.
type wrong struct {
	what string
	err  api.Errno
	make func(a *attempt)
}

// wrongs are such things, in the order in which they are asked for; those of one row are asked for at one time.
func wrongs() [][]wrong {
	shaped := func(err api.Errno, block, restart, bits int) wrong {
		return wrong{fmt.Sprint("shape ", block, restart, bits), err, func(a *attempt) { a.job.Shape = api.Shape{Block: block, Restart: restart, Bits: bits} }}
	}
	sorted := func(budget, fan int) wrong {
		return wrong{fmt.Sprint("budget and fan ", budget, fan), api.ErrArg, func(a *attempt) { a.job.Budget, a.job.Fan = budget, fan }}
	}
	numbered := func(task, number int) wrong {
		return wrong{fmt.Sprint("task and attempt ", task, number), api.ErrArg, func(a *attempt) { a.task, a.number = task, number }}
	}
	kind := func(kind int) wrong {
		return wrong{fmt.Sprint("kind ", kind), api.ErrJob, func(a *attempt) { a.job.Kind = kind }}
	}
	parts := func(parts int) wrong {
		return wrong{fmt.Sprint("parts ", parts), api.ErrArg, func(a *attempt) { a.job.Parts, a.job.Bounds = parts, nil }}
	}
	bounds := func(list ...string) wrong {
		return wrong{fmt.Sprintf("bounds %.30q", list), api.ErrBounds, func(a *attempt) { a.job.Bounds = list }}
	}
	text := func(length int) wrong {
		return wrong{fmt.Sprint("bytes ", length), api.ErrLong, func(a *attempt) { a.split.Text = strings.Repeat("-", length) }}
	}
	out := func(out string) wrong {
		return wrong{fmt.Sprintf("out %q", out), api.ErrName, func(a *attempt) { a.out = out }}
	}
	return [][]wrong{
		{text(65537), text(65538), text(1 << 20)},
		{numbered(-1, 0), numbered(256, 1), numbered(math.MaxInt, 1), numbered(math.MinInt, 1), numbered(0, -1), numbered(255, math.MinInt), numbered(-1, -1), numbered(256, -1)},
		{kind(-1), kind(5), kind(9), kind(256), kind(math.MinInt), kind(math.MaxInt), kind(1 << 32)},
		{parts(0), parts(-1), parts(65536), parts(65537), parts(math.MinInt), parts(math.MaxInt), parts(1<<32 + 1)},
		{bounds("a", "b"), bounds("a", "b", "c"), bounds("", ""), bounds(strings.Repeat("b", 1025))},
		{
			sorted(255, 2), sorted(0, 2), sorted(-1, 2), sorted(1<<24+1, 2), sorted(math.MinInt, 2), sorted(math.MaxInt, 2),
			sorted(256, 1), sorted(256, 0), sorted(256, -1), sorted(256, 65), sorted(256, math.MinInt), sorted(256, math.MaxInt),
			shaped(api.ErrArg, 63, 2, 0), shaped(api.ErrArg, 0, 2, 0), shaped(api.ErrArg, -64, 2, 0), shaped(api.ErrArg, 65537, 2, 0), shaped(api.ErrArg, 64, 0, 0), shaped(api.ErrArg, 64, -1, 0), shaped(api.ErrArg, 64, 65, 0), shaped(api.ErrArg, 64, 2, -1), shaped(api.ErrArg, 64, 2, 17), shaped(api.ErrArg, 0, 0, 0),
		},
		{out("W"), out("w_c"), out("w c"), out(strings.Repeat("w", 36)), out("é")},
	}
}

func TestEachRefusal(t *testing.T) {
	for _, row := range wrongs() {
		for _, w := range row {
			a := example("a b a")
			w.make(&a)
			a.refuses(t, w.err)
			a.stoppedAt(0).refuses(t, w.err)
			if _, err := a.run(nil); err != api.ErrNil {
				t.Errorf("a nil store, and %s: %d", w.what, err)
			}
		}
	}
	if report, err := example("a b a").run(nil); err != api.ErrNil || report != (api.Report{}) {
		t.Errorf("a nil store: %+v, %d", report, err)
	}
}

// Of two things that are wrong the one that is asked for first is told.
func TestFirstRefusal(t *testing.T) {
	rows := wrongs()
	for i, row := range rows {
		for _, first := range row {
			for k, later := range rows[i+1:] {
				for _, second := range later {
					if i == 3 && i+1+k == 4 {
						continue // bounds are asked for only when Parts may be
					}
					a := example("a b a")
					second.make(&a)
					first.make(&a)
					a.refuses(t, first.err)
				}
			}
		}
	}
	a := example("a b a")
	a.job.Parts, a.job.Bounds = 0, []string{"b", "a"}
	a.refuses(t, api.ErrArg)
}

// Just what may be is taken, each number at its edges.
func TestEdges(t *testing.T) {
	for _, change := range []func(a *attempt){
		func(a *attempt) { a.task = 255 },
		func(a *attempt) { a.number = 0 },
		func(a *attempt) { a.number = 9999 },
		func(a *attempt) { a.number = math.MaxInt },
		func(a *attempt) { a.split.Text = "" },
		func(a *attempt) { a.split.Text = "\n" },
		func(a *attempt) { a.split.Text = strings.Repeat("-", 65536) },
		func(a *attempt) { a.job.Parts = 1 },
		func(a *attempt) { a.job.Parts = 65535 },
		func(a *attempt) { a.job.Parts, a.job.Bounds = 1, []string{} },
		func(a *attempt) { a.job.Bounds = []string{strings.Repeat("b", 1024)} },
		func(a *attempt) { a.job.Bounds = []string{""} },
		func(a *attempt) { a.job.Budget = 256 },
		func(a *attempt) { a.job.Budget = 1 << 24 },
		func(a *attempt) { a.job.Fan = 64 },
		func(a *attempt) { a.job.Tries = 0 },
		func(a *attempt) { a.job.Tries = math.MinInt },
		func(a *attempt) { a.job.Tries = math.MaxInt },
		func(a *attempt) { a.job.Shape = api.Shape{Block: 64, Restart: 1, Bits: 0} },
		func(a *attempt) { a.job.Shape = api.Shape{Block: 65536, Restart: 64, Bits: 16} },
		func(a *attempt) { a.out = "a" },
		func(a *attempt) { a.out = "" },
		func(a *attempt) { a.out = strings.Repeat("w", 35) },
	} {
		for _, kind := range five() {
			a := example("a b a\nk\t1")
			a.job.Kind = kind
			change(&a)
			a.holdsPlain(t)
			a.job.Combine = true
			a.holdsPlain(t)
			a.stoppedAt(7).same(t, store.New(), store.New())
		}
	}
}

// Any numbers at all: the error is the one that the document says.
func TestAnyNumbers(t *testing.T) {
	random := rand.New(rand.NewSource(172))
	pick := func(list ...int) int { return list[random.Intn(len(list))] }
	for range 3000 {
		a := example("b a b")
		a.task, a.number = pick(0, 0, 255, -1, 256), pick(0, 1, 1, -1)
		a.split.Text = strings.Repeat("-", pick(0, 5, 65536, 65537))
		a.job = api.Job{
			Kind:   pick(0, 1, 2, 3, 4, 5, -1),
			Parts:  pick(1, 2, 3, 65535, 0, 65536),
			Budget: pick(256, 1<<24, 1000, 255, 1<<24+1),
			Fan:    pick(2, 64, 3, 1, 65),
			Shape:  api.Shape{Block: pick(64, 65536, 100, 63, 65537), Restart: pick(1, 64, 0, 65), Bits: pick(0, 16, -1, 17)},
		}
		if random.Intn(3) == 0 {
			a.job.Bounds = []string{"b", "a", "c"}[:random.Intn(4)]
		}
		a.same(t, store.New(), store.New())
	}
}

// The runs that are left behind an error, and those that are not: words of one letter cost 34 each, seven of them have room.
func TestRuns(t *testing.T) {
	for _, c := range []struct {
		words int
		left  string
	}{
		{0, ""}, {1, ""}, {7, ""}, {8, "1"}, {14, "1"}, {15, "3"}, {21, "3"}, {22, "5"}, {29, "7"},
	} {
		a := example(strings.Repeat("a ", c.words))
		a.holdsPlain(t)
		var want []api.BlobInfo
		if c.left != "" {
			want = append(want, api.BlobInfo{Name: "wc.m0.1." + c.left, State: api.BlobOut})
		}
		for _, at := range []int64{0, 10, 1 << 40} {
			s := store.New()
			_, err := a.stoppedAt(at).run(s)
			isError(t, "a stop", err, api.ErrStopped)
			got := s.List("wc.m0.1.")
			for i := range got {
				got[i].Size = 0
			}
			isSame(t, fmt.Sprintf("runs of %d words", c.words), got, want)
		}
	}
}

// A stop at each byte: so many bytes stand, and the runs are all there still.
func TestStopsAtEachByte(t *testing.T) {
	t.Parallel()
	long := example(strings.Repeat("the quick brown fox\tjumps over 1\n", 4))
	combined := long
	combined.job.Combine = true
	sorted := long
	sorted.job.Kind, sorted.job.Parts, sorted.job.Shape = api.JobSort, 7, api.Shape{Block: 100, Restart: 16, Bits: 9}
	for _, a := range []attempt{example(""), example("a b a"), long, combined, sorted} {
		report, _ := a.works(t)
		runs := a.runsOf(t)
		for at := int64(-2); at < report.Length+3; at++ {
			s := store.New()
			got, err := a.stoppedAt(at).run(s)
			isError(t, fmt.Sprintf("a stop at %d", at), err, api.ErrStopped)
			if got != (api.Report{}) {
				t.Fatalf("beside ErrStopped: %+v", got)
			}
			size := int(min(max(at, 0), report.Length))
			all := append([]api.BlobInfo{{Name: a.name(), State: api.BlobOpen, Size: size}}, runs...)
			isSame(t, fmt.Sprintf("a stop at %d", at), s.List(""), all)
			isError(t, "Publish", s.Publish(a.name()), api.ErrStopped)
		}
	}
}

// A name that is taken: what is there stays as it is, and the attempt leaves what it has come to.
func TestTaken(t *testing.T) {
	text := strings.Repeat("a ", 22) // runs 1 to 5
	for _, out := range []bool{true, false} {
		for _, c := range []struct {
			name string
			want []string
		}{
			{"wc.m0.1", []string{"wc.m0.1", "wc.m0.1.5"}},
			{"wc.m0.1.1", []string{"wc.m0.1.1"}},
			{"wc.m0.1.2", []string{"wc.m0.1.1", "wc.m0.1.2"}},
			{"wc.m0.1.3", []string{"wc.m0.1.1", "wc.m0.1.2", "wc.m0.1.3"}},
			{"wc.m0.1.4", []string{"wc.m0.1.3", "wc.m0.1.4"}},
			{"wc.m0.1.5", []string{"wc.m0.1.3", "wc.m0.1.4", "wc.m0.1.5"}},
		} {
			for _, a := range []attempt{example(text), example(text).stoppedAt(3)} {
				s := store.New()
				leave(t, s, c.name, out)
				report, err := a.run(s)
				isError(t, c.name+" is taken", err, api.ErrExists)
				if report != (api.Report{}) {
					t.Fatalf("beside ErrExists: %+v", report)
				}
				var names []string
				for _, b := range s.List("") {
					names = append(names, b.Name)
					if b.State == api.BlobOpen != (b.Name == c.name && !out) {
						t.Fatalf("%s is taken: %v", c.name, b)
					}
				}
				isSame(t, c.name+" is taken", names, c.want)
				if !out {
					isError(t, "Publish", s.Publish(c.name), api.OK)
				}
				isSame(t, c.name, bytesOf(t, s, c.name), []byte("left "+c.name))
			}
		}
	}
}

// Names that begin alike, but are not the attempt's nor its runs', are in nobody's way.
func TestOtherNames(t *testing.T) {
	names := []string{"wc", "wc.", "wc.m0", "wc.m0.", "wc.m0.10", "wc.m0.11", "wc.m0.0", "wc.m0.0.1", "wc.m0.1.0", "wc.m0.1.01", "wc.m0.1.6", "wc.m0.1.1.1", "wc.m0.1.", "wc.m0.1-1", "wc.m1.1", "wc.m00.1", "wc.r0.1", "wcm0.1", "c.m0.1"}
	for _, a := range []attempt{example(strings.Repeat("a ", 22)), example("a b a"), example("")} {
		want := a.bytes(t)
		s := store.New()
		for i, name := range names {
			leave(t, s, name, i%2 == 0)
		}
		before := s.List("")
		report, err := a.run(s)
		isError(t, "Run beside others", err, api.OK)
		isError(t, "Publish", s.Publish(report.Name), api.OK)
		isSame(t, "the spill beside others", bytesOf(t, s, report.Name), want)
		isError(t, "Delete", s.Delete(report.Name), api.OK)
		isSame(t, "the others", s.List(""), before)
		for i, name := range names {
			if i%2 == 0 {
				isSame(t, name, bytesOf(t, s, name), []byte("left "+name))
			}
		}
	}
}

// A run's name that may not be is told where the run is laid down, and the spill's where it is created.
func TestLongNames(t *testing.T) {
	for _, c := range []struct {
		length, words int
		err           api.Errno
		left          []string
	}{
		{35, 7, api.OK, []string{""}},
		{36, 7, api.ErrName, nil},
		{33, 8, api.OK, []string{""}},
		{34, 8, api.ErrName, nil},
		{33, 60, api.ErrName, []string{".7", ".8", ".9"}},
	} {
		a := example(strings.Repeat("a ", c.words))
		a.out = strings.Repeat("o", c.length)
		s, twin := store.New(), store.New()
		_, err := a.same(t, s, twin)
		isError(t, written(c), err, c.err)
		var left []string
		for _, b := range s.List("") {
			left = append(left, strings.TrimPrefix(b.Name, a.name()))
		}
		isSame(t, "what is left", left, c.left)
	}
}

// Any attempt, in a store with any blobs: the answer, and all that is there behind it, is as the document says, step by step.
func TestAnyAttempt(t *testing.T) {
	t.Parallel()
	random := rand.New(rand.NewSource(1721))
	ends := map[api.Errno]int{}
	for range 1000 {
		a := randomAttempt(random)
		if random.Intn(2) == 0 {
			at := int64(random.Intn(1 << random.Intn(12)))
			a = a.stoppedAt(at)
		}
		s, twin := store.New(), store.New()
		for range random.Intn(3) {
			name := a.name() + []string{"", ".1", ".2", ".3", ".7", ".9", "0", ".x"}[random.Intn(8)]
			out := random.Intn(2) == 0
			if len(s.List(name)) == 0 {
				leave(t, s, name, out)
				leave(t, twin, name, out)
			}
		}
		_, err := a.same(t, s, twin)
		ends[err]++
		if err == api.OK {
			s.Publish(a.name())
			twin.Publish(a.name())
			isSame(t, "the spill", bytesOf(t, s, a.name()), bytesOf(t, twin, a.name()))
		}
	}
	if ends[api.OK] < 200 || ends[api.ErrStopped] < 200 || ends[api.ErrExists] < 50 {
		t.Errorf("too few of a kind: %v", ends)
	}
}

// Nothing is remembered of an attempt that failed: when what it left is gone, the same numbers work.
func TestAgainBehindFailure(t *testing.T) {
	a := example(strings.Repeat("b a ", 20))
	want := a.bytes(t)
	s := store.New()
	for _, at := range []int64{0, 5, 1 << 40} {
		_, err := a.stoppedAt(at).run(s)
		isError(t, "a stop", err, api.ErrStopped)
		_, err = a.run(s)
		isError(t, "where an attempt has stopped", err, api.ErrExists)
		for _, b := range s.List("") {
			isError(t, "Delete", s.Delete(b.Name), api.OK)
		}
	}
	report, err := a.run(s)
	isError(t, "a store that was cleaned", err, api.OK)
	s.Publish(report.Name)
	isSame(t, "the spill", bytesOf(t, s, report.Name), want)
	if !slices.Equal(s.List(""), []api.BlobInfo{{Name: "wc.m0.1", State: api.BlobOut, Size: len(want)}}) {
		t.Errorf("blobs: %v", s.List(""))
	}
}
