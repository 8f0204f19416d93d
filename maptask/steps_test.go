package maptask

import (
	"fmt"
	"math/rand"
	"slices"
	"strings"
	"testing"

	"winnow/api"
	"winnow/extsort"
	"winnow/parts"
	"winnow/spill"
	"winnow/store"
)

// Steps by themselves, where a call of Run cannot be brought to what goes wrong.

// isParted holds a partition that is told by halving against parts.Of.
func isParted(t *testing.T, j api.Job, key string) {
	t.Helper()
	if got, want := partOf(j, key), parts.Of(j, key); got != want {
		t.Fatalf("the partition of %.50q in %s: %d, and not %d", key, written(j), got, want)
	}
}

func TestPartOf(t *testing.T) {
	random := rand.New(rand.NewSource(174))
	for range 3000 {
		j := randomJob(random)
		isParted(t, j, randomText(random, "ab w", 4))
		for _, bound := range j.Bounds {
			isParted(t, j, bound)
			isParted(t, j, bound+"\x00")
		}
	}
	many := api.Job{Parts: 65535}
	for i := range 65534 {
		many.Bounds = append(many.Bounds, fmt.Sprintf("%05d", i))
	}
	for _, key := range []string{"", "0", "00000", "000000", "32767", "65532", "65533", "655330", "655329", "7", "\xff"} {
		isParted(t, many, key)
	}
	for i := range many.Bounds {
		many.Bounds[i] = "b"
	}
	for _, key := range []string{"", "a", "b", "c"} {
		isParted(t, many, key)
	}
}

// sortedOf tells a stream over some records, and its store, with a run of the first seven.
func sortedOf(t *testing.T, j api.Job, values ...string) (*store.Store, *extsort.Stream) {
	t.Helper()
	s := store.New()
	x, err := extsort.New(s, "x", j.Parts, j.Budget, j.Fan, j.Shape)
	isError(t, "a sorter", err, api.OK)
	for i, value := range values {
		isError(t, "Add", x.Add(rec(0, string(rune('a'+i/3)), value)), api.OK)
	}
	sorted, err := x.Finish()
	isError(t, "Finish", err, api.OK)
	return s, sorted
}

// A run that is damaged: its error is the answer; what was told ahead of it is in the spill, but of a key whose values may not be all, nothing combined.
func TestDamagedRun(t *testing.T) {
	for _, combine := range []bool{false, true} {
		j := exampleJob()
		j.Parts, j.Combine = 1, combine
		j.Shape.Block = 64
		s, sorted := sortedOf(t, j, "1", "1", "1", "1", strings.Repeat("1", 31), "1", "1", "1")
		isError(t, "there is a run", s.Delete("x.2"), api.ErrNoBlob)
		size, err := s.Size("x.1")
		isError(t, "Size", err, api.OK)
		file, err := spill.Open(s, "x.1", size)
		isError(t, "Open", err, api.OK)
		blocks := file.Foot().Infos[0].Blocks
		if len(blocks) < 2 {
			t.Fatalf("the run has %d blocks", len(blocks))
		}
		first := blocks[0]
		isError(t, "Flip", s.Flip("x.1", 8*int64(first.Stored+5)+3, 1), api.OK)

		w, err := spill.Create(s, "y", 1, j.Shape)
		isError(t, "Create", err, api.OK)
		isError(t, "write", write(w, j, sorted), api.ErrCorrupt)
		length, records, err := w.Close()
		isError(t, "Close", err, api.OK)
		s.Publish("y")
		got := held(t, s, api.Report{Name: "y", Length: length})
		var ahead []api.Record
		for i := range first.Count {
			ahead = append(ahead, rec(0, string(rune('a'+i/3)), "1"))
		}
		want := ahead
		if combine {
			want = plainWritten(j, ahead)
			want = want[:len(want)-1] // more values of the last key may have been to come
		}
		isSame(t, fmt.Sprintf("written, %v", combine), got, want)
		if records != int64(len(want)) {
			t.Errorf("%d records, and not %d", records, len(want))
		}
	}
}

// A stream that fails at once leaves a spill without records.
func TestGoneRun(t *testing.T) {
	for _, combine := range []bool{false, true} {
		j := exampleJob()
		j.Parts, j.Combine = 1, combine
		s, sorted := sortedOf(t, j, slices.Repeat([]string{"1"}, 9)...)
		isError(t, "Delete", s.Delete("x.1"), api.OK)
		w, err := spill.Create(s, "y", 1, j.Shape)
		isError(t, "Create", err, api.OK)
		isError(t, "write", write(w, j, sorted), api.ErrNoBlob)
		_, records, err := w.Close()
		isError(t, "Close", err, api.OK)
		if records != 0 {
			t.Errorf("%d records", records)
		}
	}
}

// Behind the first Add that is refused nothing more is taken from the stream, but for the one record that tells where a key's values end.
func TestNothingBehindAStop(t *testing.T) {
	for _, combine := range []bool{false, true} {
		j := exampleJob()
		j.Kind, j.Parts, j.Combine = api.JobSort, 1, combine
		s, sorted := sortedOf(t, j, strings.Split("123456", "")...)
		w, err := spill.Create(s, "y", 1, j.Shape)
		isError(t, "Create", err, api.OK)
		isError(t, "Add", w.Add(rec(0, "b", "0")), api.OK)
		isError(t, "write behind a greater key", write(w, j, sorted), api.ErrOrder)
		r, some, err := sorted.Next()
		isError(t, "Next", err, api.OK)
		want := rec(0, "a", "2")
		if combine {
			want = rec(0, "b", "5")
		}
		if !some || r != want {
			t.Errorf("next is %v, and not %v", r, want)
		}
	}
}

// Lines behind the first record that is refused are not looked at.
func TestGatherStops(t *testing.T) {
	j := exampleJob()
	s := store.New()
	leave(t, s, "x.2", true)
	x, err := extsort.New(s, "x", j.Parts, j.Budget, j.Fan, j.Shape)
	isError(t, "a sorter", err, api.OK)
	dropped, err := gather(x, j, api.Split{Text: strings.Repeat("w", 1025) + "\n" + strings.Repeat("a ", 50)})
	isError(t, "gather", err, api.ErrExists)
	if dropped != 0 {
		t.Errorf("beside an error: %d", dropped)
	}
}
