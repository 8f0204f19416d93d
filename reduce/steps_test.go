package reduce

import (
	"fmt"
	"iter"
	"slices"
	"strings"
	"testing"

	"winnow/api"
	"winnow/spill"
	"winnow/store"
)

// Steps by themselves, where a call of Run cannot be brought to what goes wrong.

// given tells what a step has given up with, if it has.
func given(do func()) (why any) {
	defer func() { why = recover() }()
	do()
	return nil
}

// readersOf opens the spills of an attempt.
func readersOf(t *testing.T, s *store.Store, a attempt) []*spill.Reader {
	t.Helper()
	readers, _, why := examine(s, a.job.Parts, a.task, a.spills)
	isError(t, "all is whole", why, api.OK)
	return readers
}

// A spill that is damaged behind the look at it: the pairs ahead of the damage are told, and then the merge gives up, with the cursor's error.
func TestDamageBehindTheLook(t *testing.T) {
	for _, place := range []int{0, 1, 2} {
		sheets := threeSheets(3)
		s, a := attemptOver(t, sheets, 1)
		readers := readersOf(t, s, a)
		blocks := readers[place].Foot().Infos
		at := int64(0)
		for _, b := range blocks[0].Blocks {
			at += int64(b.Stored) + 5
		}
		first := blocks[1].Blocks[0]
		at += int64(first.Stored) + 5 // the second block of the partition
		isError(t, "Flip", s.Flip(a.spills[place].Name, 8*at+3, 1), api.OK)

		var told []api.Pair
		why := given(func() {
			for pair := range merged(readers, 1) {
				told = append(told, pair)
			}
		})
		if why != any(api.ErrCorrupt) {
			t.Fatalf("given up with %v", why)
		}
		// By 11.8: just what comes ahead of the damage, up to and with that spill's last whole record.
		whole := pairsOf(sheets[place:place+1], 1)[:first.Count]
		last := whole[len(whole)-1]
		var want []api.Pair
		for i, h := range sheets {
			for _, pair := range pairsOf([]sheet{h}, 1) {
				if pair.Key < last.Key || pair.Key == last.Key && i <= place {
					want = append(want, pair)
				}
			}
		}
		slices.SortStableFunc(want, func(a, b api.Pair) int { return strings.Compare(a.Key, b.Key) })
		isSame(t, fmt.Sprint("spill ", place), told, want)
	}
}

// So it is within a bundle of neighbours, and of a spill that is gone.
func TestGoneBehindTheLook(t *testing.T) {
	for _, place := range []int{0, 63, 64, 100, 129} {
		var sheets []sheet
		for i := range 130 {
			sheets = append(sheets, sheetOf("a", fmt.Sprint(i)))
		}
		s, a := attemptOver(t, sheets, 0)
		readers := readersOf(t, s, a)
		isError(t, "Delete", s.Delete(a.spills[place].Name), api.OK)
		count := 0
		why := given(func() {
			for range linesOf(api.JobSort, merged(readers, 0)) {
				count++
			}
		})
		if why != any(api.ErrCorrupt) || count != 0 {
			t.Fatalf("spill %d: %v, behind %d", place, why, count)
		}
	}
}

// A spill that somebody else damages when the part is begun already: the error of its cursor is Run's, nothing is published, and nobody is blamed.
func TestDamageWhileWriting(t *testing.T) {
	var sheets []sheet
	for range 2 {
		h := sheet{parts: 1, shape: api.Shape{Block: 1000, Restart: 64}}
		for k := range 60000 {
			h.records = append(h.records, rec(0, fmt.Sprintf("%06d", k), "v"))
		}
		sheets = append(sheets, h)
	}
	s, a := attemptOver(t, sheets, 0)
	a.job.Kind = api.JobSort
	tiles := tilesOf(t, s, a.spills[1])
	last := tiles[len(tiles)-3]
	inTime := 0
	for try := range 50 {
		a.number = try + 1
		done, flipped := make(chan struct{}), make(chan bool)
		go func() { flipped <- flipWhenBegun(s, a, last, done) }()
		verdict, err := a.run(s)
		close(done)
		if !<-flipped {
			isError(t, "Run", err, api.OK)
			continue
		}
		isError(t, "mended again: Flip", s.Flip(a.spills[1].Name, 8*last.From, 1), api.OK)
		isVerdict(t, "damage while writing", verdict, err, api.Verdict{}, api.ErrCorrupt)
		left := s.List(a.name())
		if len(left) != 1 || left[0].State != api.BlobOpen {
			t.Fatalf("what is left: %v", left)
		}
		if inTime++; inTime == 3 {
			return
		}
	}
	t.Logf("only %d came in time", inTime)
}

// flipWhenBegun turns a bit of a tile of an attempt's second spill as soon as its part is there, and tells whether it came to that.
func flipWhenBegun(s *store.Store, a attempt, tile api.Tile, done chan struct{}) bool {
	for len(s.List(a.name())) == 0 {
		select {
		case <-done:
			return false
		default:
		}
	}
	return s.Flip(a.spills[1].Name, 8*tile.From, 1) == api.OK
}

// endless tells lines without end, and counts them.
func endless(count *int) iter.Seq[string] {
	return func(yield func(string) bool) {
		for yield("line\n") {
			*count++
		}
	}
}

// Behind the first Append that is refused no further line is taken.
func TestNothingBehindAStop(t *testing.T) {
	s := store.New()
	isError(t, "create", create(s, "x", 12, true), api.OK)
	count := 0
	length, lines, err := write(s, "x", endless(&count))
	isError(t, "write", err, api.ErrStopped)
	if length != 0 || lines != 0 || count != 2 {
		t.Errorf("beside a stop: %d, %d, behind %d lines", length, lines, count)
	}
	isSame(t, "blobs", s.List(""), []api.BlobInfo{{Name: "x", State: api.BlobOpen, Size: 12}})
}

// Lines are left when no more are wanted, and with them the pairs.
func TestLinesLeftEarly(t *testing.T) {
	all := []api.Pair{{Key: "a", Value: "1"}, {Key: "a", Value: "2"}, {Key: "b", Value: "3"}, {Key: "c", Value: "4"}, {Key: "d", Value: "5"}}
	for most, taken := range []int{0, 3, 3, 4, 5, 5} {
		count := 0
		pairs := func(yield func(api.Pair) bool) {
			for _, pair := range all {
				count++
				if !yield(pair) {
					return
				}
			}
		}
		var told []string
		for line := range linesOf(api.JobSort, pairs) {
			if told = append(told, line); len(told) == most {
				break
			}
		}
		if most > 0 && (len(told) != most || count != taken) {
			t.Errorf("%d lines are told, of %d pairs, and not %d of %d", len(told), count, most, taken)
		}
	}
}

// Stops around the greatest length of a blob, by lines that are great themselves.
func TestStopsOfBigParts(t *testing.T) {
	t.Parallel()
	line := strings.Repeat("l", 1<<20)
	for _, c := range []struct {
		at   int64
		more string
		err  api.Errno
	}{
		{api.MaxBlob, "", api.ErrStopped}, {api.MaxBlob + 1, "l", api.ErrBig},
	} {
		s := store.New()
		isError(t, "create", create(s, "x", c.at, true), api.OK)
		_, _, err := write(s, "x", func(yield func(string) bool) {
			for range api.MaxBlob >> 20 {
				if !yield(line) {
					return
				}
			}
			if c.more != "" {
				yield(c.more)
			}
		})
		isError(t, fmt.Sprint("a stop at ", c.at, c.more), err, c.err)
		isSame(t, "blobs", s.List(""), []api.BlobInfo{{Name: "x", State: api.BlobOpen, Size: int(min(c.at, api.MaxBlob))}})
	}
}

// A stop that somebody else has laid on the part is one as well.
func TestStopOfSomebodyElse(t *testing.T) {
	s := store.New()
	isError(t, "create", create(s, "x", 0, false), api.OK)
	isError(t, "StopAt", s.StopAt("x", 100), api.OK)
	_, _, err := write(s, "x", slices.Values([]string{"a\n"}))
	isError(t, "write", err, api.ErrStopped)
	verdict, err := end(api.Report{Task: 3, Attempt: 1, Name: "x"}, err)
	isVerdict(t, "its end", verdict, err, api.Verdict{Kind: api.ReduceStopped}, api.OK)
}

// What is left beside OK and a stop is an error, and nothing is told beside it.
func TestEnds(t *testing.T) {
	report := api.Report{Task: 3, Attempt: 1, Name: "x", Length: 5, Records: 2}
	for _, why := range []api.Errno{api.ErrBig, api.ErrNoBlob, api.ErrOut, api.ErrName} {
		verdict, err := end(report, why)
		isVerdict(t, "an error", verdict, err, api.Verdict{}, why)
	}
	verdict, err := end(report, api.OK)
	isVerdict(t, "all is well", verdict, err, api.Verdict{Kind: api.ReduceDone, Report: report}, api.OK)
}
