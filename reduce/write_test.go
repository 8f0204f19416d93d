package reduce

import (
	"fmt"
	"math"
	"math/rand"
	"slices"
	"strings"
	"testing"

	"winnow/api"
	"winnow/store"
)

// 18.5

// The first example, and the fourth.
func TestDoneOfTheExample(t *testing.T) {
	s, a := example(t)
	verdict, err := a.run(s)
	want := api.Verdict{Kind: api.ReduceDone, Report: api.Report{Task: 0, Attempt: 1, Name: "o.r0.1", Length: 8, Records: 2}}
	isVerdict(t, "the example", verdict, err, want, api.OK)
	isSame(t, "o.r0.1", bytesOf(t, s, "o.r0.1"), []byte("a\t2\nb\t2\n"))

	for _, none := range [][]api.Report{nil, {}} {
		s := store.New()
		verdict, err := Run(s, "o", api.Job{Kind: api.JobCount, Parts: 1}, 0, 1, none, 0, false)
		want := api.Verdict{Kind: api.ReduceDone, Report: api.Report{Task: 0, Attempt: 1, Name: "o.r0.1"}}
		isVerdict(t, "no spills", verdict, err, want, api.OK)
		isSame(t, "o.r0.1", bytesOf(t, s, "o.r0.1"), nil)
		isSame(t, "blobs", s.List(""), []api.BlobInfo{{Name: "o.r0.1", State: api.BlobOut}})
	}
}

// The third example, and stops around the part's end.
func TestStopsOfTheExample(t *testing.T) {
	for _, c := range []struct{ at, size int64 }{
		{3, 3}, {0, 0}, {1, 1}, {-1, 0}, {-3, 0}, {math.MinInt64, 0},
		{4, 4}, {5, 5}, {7, 7}, {8, 8}, {9, 8}, {100, 8}, {1 << 40, 8}, {math.MaxInt64, 8},
	} {
		s, a := example(t)
		before := s.List("")
		verdict, err := a.stoppedAt(c.at).run(s)
		what := fmt.Sprintf("a stop at %d", c.at)
		isVerdict(t, what, verdict, err, api.Verdict{Kind: api.ReduceStopped}, api.OK)
		isSame(t, what, s.List(""), with(before, api.BlobInfo{Name: "o.r0.1", State: api.BlobOpen, Size: int(c.size)}))
		isError(t, "Publish", s.Publish("o.r0.1"), api.ErrStopped)
	}
}

// Without stops a place says nothing.
func TestPlaceWithoutStop(t *testing.T) {
	for _, at := range []int64{math.MinInt64, -1, 0, 1, 3, 8, math.MaxInt64} {
		s, a := example(t)
		a.at = at
		a.writes(t, s, "a\t2\nb\t2\n", 2)
	}
}

// A part without lines stops as well, when it is to be published.
func TestStopsOfEmptyParts(t *testing.T) {
	for _, at := range []int64{-1, 0, 1, 100} {
		for _, sheets := range [][]sheet{nil, {sheetOf()}, {sheetOf(), sheetOf()}} {
			s, a := attemptOver(t, sheets, 0)
			before := s.List("")
			verdict, err := a.stoppedAt(at).run(s)
			isVerdict(t, "a stop", verdict, err, api.Verdict{Kind: api.ReduceStopped}, api.OK)
			isSame(t, "a stop", s.List(""), with(before, api.BlobInfo{Name: "o.r0.1", State: api.BlobOpen}))
		}
	}
}

// A stop at each byte of a part of some lines, of each kind.
func TestStopsAtEachByte(t *testing.T) {
	sheets := []sheet{sheetOf("", "7", "a", "-3", "a", "x", "b\n", "12"), sheetOf("a", "5", "a", "", "b\n", "9", "long key", "1\n1"), sheetOf("a", "5", "c", "100")}
	for _, kind := range five() {
		text, _ := plainPart(kind, pairsOf(sheets, 0))
		for at := range int64(len(text) + 3) {
			s, a := attemptOver(t, sheets, 0)
			a.job.Kind = kind
			before := s.List("")
			verdict, err := a.stoppedAt(at).run(s)
			isVerdict(t, a.String(), verdict, err, api.Verdict{Kind: api.ReduceStopped}, api.OK)
			isSame(t, a.String(), s.List(""), with(before, api.BlobInfo{Name: a.name(), State: api.BlobOpen, Size: min(int(at), len(text))}))
		}
	}
}

// What each kind makes of values, in whole words.
func TestKinds(t *testing.T) {
	for _, c := range []struct {
		kind   int
		spills []sheet
		want   string
		lines  int64
	}{
		{api.JobCount, []sheet{sheetOf("a", "1", "b", "3"), sheetOf("a", "2"), sheetOf("b", "10", "c", "1")}, "a\t3\nb\t13\nc\t1\n", 3},
		{api.JobCount, []sheet{sheetOf("a", "no", "b", "007"), sheetOf("b", "1")}, "a\t0\nb\t1\n", 2},
		{api.JobIndex, []sheet{sheetOf("a", "10", "a", "9"), sheetOf("a", "9", "a", "-1", "b", "0")}, "a\t-1\na\t9\na\t10\nb\t0\n", 4},
		{api.JobIndex, []sheet{sheetOf("a", "x", "b", "1", "c", ""), sheetOf("b", "01")}, "b\t1\n", 1},
		{api.JobSum, []sheet{sheetOf("", "-5", "k", "9223372036854775807"), sheetOf("", "2", "k", "1")}, "\t-3\nk\t-9223372036854775808\n", 2},
		{api.JobSort, []sheet{sheetOf("a", "z", "a", "y", "b", ""), sheetOf("", "w", "a", "z"), sheetOf("a", "a\tb")}, "\tw\na\tz\na\ty\na\tz\na\ta\tb\nb\t\n", 6},
		{api.JobDistinct, []sheet{sheetOf("a", "", "a", "", "b", ""), sheetOf("", "", "b", "")}, "\t\na\t\nb\t\n", 3},
		{api.JobDistinct, []sheet{sheetOf("a", "1", "a", "2"), sheetOf("a", "3")}, "a\t1\n", 1},
	} {
		s, a := attemptOver(t, c.spills, 0)
		a.job.Kind = c.kind
		a.writes(t, s, c.want, c.lines)
	}
}

// Records are counted as lines, whatever bytes keys and values have.
func TestLinesWithLineFeeds(t *testing.T) {
	s, a := attemptOver(t, []sheet{sheetOf("\n\n", "\n", "k\tl", "\n")}, 0)
	a.job.Kind = api.JobSort
	a.writes(t, s, "\n\n\t\n\nk\tl\t\n\n", 2)
	s, a = attemptOver(t, []sheet{sheetOf("\x00", "\xff", "\xff", "\x00")}, 0)
	a.job.Kind = api.JobSort
	a.writes(t, s, "\x00\t\xff\n\xff\t\x00\n", 2)
}

// Keys are in the order of their bytes, and a text is below those that begin with it.
func TestOrderOfKeys(t *testing.T) {
	s, a := attemptOver(t, []sheet{sheetOf("Z", "1", "a", "1", "é", "1"), sheetOf("", "1", "a\x00", "1", "z", "1"), sheetOf("aa", "1", "\xff", "1")}, 0)
	a.writes(t, s, "\t1\nZ\t1\na\t1\na\x00\t1\naa\t1\nz\t1\né\t1\n\xff\t1\n", 8)
}

// Keys and values at their limits.
func TestLongest(t *testing.T) {
	key, value := strings.Repeat("k", 1024), strings.Repeat("v", 1024)
	sheets := []sheet{sheetOf(key[1:], "1", key, value), sheetOf(key, value, key, value[1:]), sheetOf(key[1:], value)}
	for _, kind := range five() {
		s, a := attemptOver(t, sheets, 0)
		a.job.Kind = kind
		a.writesPlain(t, s, sheets)
	}
}

// A partition has its own records alone, and may have none.
func TestPartitions(t *testing.T) {
	sheets := []sheet{
		{parts: 4, shape: smallShape(), records: []api.Record{rec(0, "a", "1"), rec(0, "a", "1"), rec(2, "a", "5")}},
		{parts: 4, shape: smallShape()},
		{parts: 4, shape: smallShape(), records: []api.Record{rec(0, "b", "2"), rec(3, "", "4")}},
	}
	s, a := attemptOver(t, sheets, 0)
	for task, want := range []string{"a\t2\nb\t2\n", "", "a\t5\n", "\t4\n"} {
		a.task = task
		a.writes(t, s, want, int64(strings.Count(want, "\n")))
	}
}

// Alike keys in very many spills, fewer and more than a merge takes: the values of earlier reports first, of one spill in their order.
func TestManySpills(t *testing.T) {
	t.Parallel()
	for _, count := range []int{0, 1, 2, 3, 63, 64, 65, 66, 127, 128, 129, 192, 193, 255, 256} {
		var sheets []sheet
		for i := range count {
			sheets = append(sheets, sheetOf(fmt.Sprintf("%03d", i*97%256), "own", "k", fmt.Sprint(i), "k", fmt.Sprint(-i), "l", "7"))
		}
		for _, kind := range five() {
			s, a := attemptOver(t, sheets, 0)
			a.job.Kind = kind
			a.writesPlain(t, s, sheets)
		}
	}
}

// Many spills of which most have nothing of the partition.
func TestManyEmptySpills(t *testing.T) {
	for _, full := range []int{0, 63, 64, 128, 200, 255} {
		sheets := make([]sheet, 256)
		for i := range sheets {
			sheets[i] = sheet{parts: 2, shape: smallShape(), records: []api.Record{rec(1, "k", fmt.Sprint(i))}}
		}
		sheets[full] = sheet{parts: 2, shape: smallShape(), records: []api.Record{rec(0, "a", "1"), rec(0, "b", "2")}}
		s, a := attemptOver(t, sheets, 0)
		a.writes(t, s, "a\t1\nb\t2\n", 2)
	}
}

// More values of a key than a block holds, and keys that go on from block to block.
func TestManyValues(t *testing.T) {
	t.Parallel()
	for _, shape := range []api.Shape{smallShape(), {Block: 4096, Restart: 64, Bits: 10}} {
		var sheets []sheet
		for i := range 5 {
			h := sheet{parts: 1, shape: shape}
			for k := range 900 {
				h.records = append(h.records, rec(0, fmt.Sprintf("key%d", k/300), fmt.Sprint(i*k)))
			}
			sheets = append(sheets, h)
		}
		for _, kind := range five() {
			s, a := attemptOver(t, sheets, 0)
			a.job.Kind = kind
			a.writesPlain(t, s, sheets)
		}
	}
}

// One spill under the names of many reports.
func TestOneSpillForAll(t *testing.T) {
	s, a := attemptOver(t, []sheet{sheetOf("a", "1", "b", "2")}, 0)
	one := a.spills[0]
	for task := 1; task < 256; task++ {
		one.Task = task
		a.spills = append(a.spills, one)
	}
	a.writes(t, s, "a\t256\nb\t512\n", 2)
}

// 18.6

// A blob of the part's name that is there already, open or published, stays as it is.
func TestTakenNames(t *testing.T) {
	for _, out := range []bool{false, true} {
		s, a := example(t)
		leave(t, s, "o.r0.1", out)
		before := s.List("")
		for _, b := range []attempt{a, a.stoppedAt(0), a.stoppedAt(100)} {
			verdict, err := b.run(s)
			isVerdict(t, "a taken name", verdict, err, api.Verdict{}, api.ErrExists)
			isSame(t, "blobs", s.List(""), before)
		}
		if !out {
			isError(t, "it is not stopped: Append", s.Append("o.r0.1", []byte("!")), api.OK)
			isError(t, "Publish", s.Publish("o.r0.1"), api.OK)
			isSame(t, "o.r0.1", bytesOf(t, s, "o.r0.1"), []byte("left o.r0.1!"))
			continue
		}
		isSame(t, "o.r0.1", bytesOf(t, s, "o.r0.1"), []byte("left o.r0.1"))
		a.number = 2
		a.writes(t, s, "a\t2\nb\t2\n", 2)
	}
}

// The same attempt again: its part is there already, whole or stopped.
func TestTheSameAttemptAgain(t *testing.T) {
	s, a := example(t)
	a.writes(t, s, "a\t2\nb\t2\n", 2)
	a.same(t, s)
	isSame(t, "o.r0.1", bytesOf(t, s, "o.r0.1"), []byte("a\t2\nb\t2\n"))
	a.number = 2
	a.stoppedAt(3).same(t, s)
	verdict, err := a.run(s)
	isVerdict(t, "behind a stop", verdict, err, api.Verdict{}, api.ErrExists)
}

// Names that may not be, and the longest one.
func TestNamesOfParts(t *testing.T) {
	for _, out := range []string{"W", "w_c", "w c", "é", "o\n", "\x00", strings.Repeat("w", 36), strings.Repeat("w", 1000)} {
		s, a := example(t)
		a.out = out
		before := s.List("")
		for _, b := range []attempt{a, a.stoppedAt(0)} {
			verdict, err := b.run(s)
			isVerdict(t, a.String(), verdict, err, api.Verdict{}, api.ErrName)
			isSame(t, "blobs", s.List(""), before)
		}
	}
	for _, out := range []string{"", "o", ".", "-", "a.b-9", strings.Repeat("w", 35)} {
		s, a := example(t)
		a.out = out
		a.writes(t, s, "a\t2\nb\t2\n", 2)
	}
}

// Names that begin alike are in nobody's way.
func TestOtherNames(t *testing.T) {
	s, a := example(t)
	names := []string{"o", "o.", "o.r0", "o.r0.", "o.r0.10", "o.r0.0", "o.r0.2", "o.r0.1.1", "o.r0.1.", "o.r1.1", "o.r00.1", "or0.1", "o.m0.2"}
	for i, name := range names {
		leave(t, s, name, i%2 == 0)
	}
	a.writes(t, s, "a\t2\nb\t2\n", 2)
	for i, name := range names {
		if i%2 == 0 {
			isSame(t, name, bytesOf(t, s, name), []byte("left "+name))
		}
	}
}

// bigAttempt is an attempt whose part has a byte more than MaxBlob: one spill stands for 255 reports.
func bigAttempt(t *testing.T) (*store.Store, attempt) {
	t.Helper()
	h := sheet{parts: 1, shape: api.Shape{Block: 65536, Restart: 64}}
	for k := range 512 {
		// A line of 2048 bytes.
		h.records = append(h.records, rec(0, fmt.Sprintf("%01022d", k), strings.Repeat("v", 1024)))
	}
	last := h
	last.records = slices.Clone(h.records)
	last.records[511].Key += "k"
	s, a := attemptOver(t, []sheet{h, last}, 0)
	a.job.Kind = api.JobSort
	one, other := a.spills[0], a.spills[1]
	a.spills = nil
	for task := range 255 {
		one.Task = task
		a.spills = append(a.spills, one)
	}
	other.Task = 255
	a.spills = append(a.spills, other)
	return s, a
}

// A part that is longer than MaxBlob stays open, and nothing is published.
func TestBigParts(t *testing.T) {
	t.Parallel()
	s, a := bigAttempt(t)
	verdict, err := a.run(s)
	isVerdict(t, "MaxBlob bytes and one more", verdict, err, api.Verdict{}, api.ErrBig)
	left := s.List("o.r")
	if len(left) != 1 || left[0].Name != "o.r0.1" || left[0].State != api.BlobOpen {
		t.Fatalf("what is left: %v", left)
	}
	// A stop comes ahead of the bound.
	a.number = 2
	verdict, err = a.stoppedAt(5).run(s)
	isVerdict(t, "a stop", verdict, err, api.Verdict{Kind: api.ReduceStopped}, api.OK)
	isSame(t, "what is left", s.List("o.r0.2"), []api.BlobInfo{{Name: "o.r0.2", State: api.BlobOpen, Size: 5}})
	// Without the one byte it has room, and is whole.
	a.number = 3
	a.spills[255] = a.spills[254]
	a.spills[255].Task = 255
	isError(t, "Delete", s.Delete("o.r0.1"), api.OK)
	verdict, err = a.run(s)
	isVerdict(t, "MaxBlob bytes", verdict, err, a.done(api.MaxBlob, 512*256), api.OK)
}

// Any attempt, in a store with any blobs: the answer, and all that is there behind it, is as the document says.
func TestAnyAttempt(t *testing.T) {
	t.Parallel()
	random := rand.New(rand.NewSource(185))
	ends := map[string]int{}
	for range 1500 {
		s, a, _ := randomAttempt(t, random)
		if random.Intn(2) == 0 {
			a = a.stoppedAt(int64(random.Intn(1<<random.Intn(10)) - 1))
		}
		if random.Intn(8) == 0 {
			leave(t, s, a.name(), random.Intn(2) == 0)
		}
		if random.Intn(8) == 0 {
			damageMany(t, random, s, a)
		}
		verdict, err := a.same(t, s)
		ends[fmt.Sprint(verdict.Kind, err)]++
	}
	for _, end := range []string{"0 0", "1 0", "2 0", "0 51"} {
		if ends[end] < 40 {
			t.Errorf("too few of a kind: %v", ends)
		}
	}
}
