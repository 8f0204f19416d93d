package commit

import (
	"fmt"
	"math/rand"
	"slices"
	"strings"
	"testing"

	"winnow/api"
	"winnow/jobs"
	"winnow/maptask"
	"winnow/reduce"
	"winnow/store"
)

// The chapter's examples.

func TestExamples(t *testing.T) {
	s := store.New()
	reports := []api.Report{lay(t, s, "wc", 0, 1, "a\t2\n"), lay(t, s, "wc", 1, 3, "")}
	five := slices.Clone(reports)
	five[0].Length = 5
	refuses(t, "a Length of 5", s, "wc", five, api.ErrPart)
	refuses(t, "the other order", s, "wc", []api.Report{reports[1], reports[0]}, api.ErrPart)
	refuses(t, "none", s, "wc", nil, api.ErrArg)
	for _, out := range []string{"9a", "", "abcdefghijklm", "a.b"} {
		isError(t, out, CheckName(out), api.ErrName)
	}
	reads(t, "without a manifest", s, "wc", nil, api.ErrNoBlob)
	commits(t, "Commit", s, "wc", reports)
	reads(t, "Read", s, "wc", []string{"a\t2\n", ""}, api.OK)
	refuses(t, "Commit again", s, "wc", reports, api.ErrExists)
	put(t, s, "wc.r0.0", "open", false)
	put(t, s, "wc.m0.0", "out", true)
	cleans(t, "Clean", s, "wc", 2, "wc", "wc.r0.1", "wc.r1.3")
	s = store.New()
	layAll(t, s, "wc", "one", "two")
	put(t, s, "wc.m0.0", "out", true)
	cleans(t, "without a manifest", s, "wc", 3)
}

// 20.6

// At each moment ahead of the publishing Read answers an error, from then on the texts.
func TestOneMoment(t *testing.T) {
	texts := []string{"one", "", "three"}
	s := store.New()
	var reports []api.Report
	for task, text := range texts {
		reads(t, fmt.Sprint("ahead of part ", task), s, "wc", nil, api.ErrNoBlob)
		reports = append(reports, lay(t, s, "wc", task, 2, text))
	}
	reads(t, "all parts are there", s, "wc", nil, api.ErrNoBlob)
	tile := plainEncode(entriesBy(t, s, reports))
	isError(t, "Create", s.Create("wc"), api.OK)
	for i := range len(tile) {
		reads(t, fmt.Sprint(i, " bytes"), s, "wc", nil, api.ErrOpen)
		isError(t, "Append", s.Append("wc", []byte{tile[i]}), api.OK)
	}
	reads(t, "all bytes", s, "wc", nil, api.ErrOpen)
	isError(t, "Publish", s.Publish("wc"), api.OK)
	reads(t, "published", s, "wc", texts, api.OK)
	refuses(t, "Commit", s, "wc", reports, api.ErrExists)
}

// Somebody who reads all the time sees no output, and then the whole of it.
func TestReadersSeeOneMoment(t *testing.T) {
	for range 200 {
		s := store.New()
		texts := []string{"one", "", strings.Repeat("three", 1000)}
		reports := layAll(t, s, "wc", texts...)
		answers := make(chan string)
		go func() {
			err := api.ErrNoBlob
			for err == api.ErrNoBlob || err == api.ErrOpen {
				var got []string
				if got, err = Read(s, "wc"); err == api.OK && !slices.Equal(got, texts) {
					answers <- "other texts"
					return
				}
			}
			answers <- fmt.Sprint("error ", err)
		}()
		isError(t, "Commit", Commit(s, "wc", reports), api.OK)
		if got := <-answers; got != "error 0" {
			t.Fatal(got)
		}
	}
}

// 20.6, 20.8: whatever is done beside them, as long as the parts and the manifest stay.
func TestOutputsStay(t *testing.T) {
	random := rand.New(rand.NewSource(206))
	for range 100 {
		texts := []string{randomText(random), randomText(random)}
		s := committed(t, "wc", texts...)
		for range 20 {
			name := plainName([]string{"wc", "wd"}[random.Intn(2)], random.Intn(3), random.Intn(5))
			if slices.Contains([]string{"wc.r0.2", "wc.r1.2"}, name) {
				continue
			}
			switch random.Intn(7) {
			case 0:
				s.Create(name)
			case 1:
				s.Append(name, []byte("more"))
			case 2:
				s.Publish(name)
			case 3:
				s.Delete(name)
			case 4:
				s.Flip(name, 3, 7)
			case 5:
				Commit(s, "wd", []api.Report{{Name: name}})
			case 6:
				Clean(s, []string{"wc", "wd", "w"}[random.Intn(3)])
			}
			reads(t, name, s, "wc", texts, api.OK)
		}
	}
}

// P4, of an output: a job by hand, whose tasks run now and then in vain, is committed with what it means.
func TestJobByHand(t *testing.T) {
	s := store.New()
	j := api.Job{Kind: api.JobCount, Parts: 3, Budget: 1 << 12, Fan: 2, Tries: 3, Shape: api.Shape{Block: 64, Restart: 4, Bits: 10}}
	splits := []api.Split{{Text: "one two three two\n"}, {Offset: 18, Text: "three three four\n"}}
	var spills, parts []api.Report
	for task, split := range splits {
		_, err := maptask.Run(s, "wc", j, task, 1, split, 9, true)
		isError(t, "one that stops", err, api.ErrStopped)
		report, err := maptask.Run(s, "wc", j, task, 2, split, 0, false)
		isError(t, "a map task", err, api.OK)
		isError(t, "Publish", s.Publish(report.Name), api.OK)
		spills = append(spills, report)
	}
	for task := range j.Parts {
		_, err := reduce.Run(s, "wc", j, task, 1, spills, 2, true)
		isError(t, "one that stops", err, api.OK)
		verdict, err := reduce.Run(s, "wc", j, task, 2, spills, 0, false)
		isError(t, "a reduce task", err, api.OK)
		parts = append(parts, verdict.Report)
	}
	reads(t, "ahead of Commit", s, "wc", nil, api.ErrNoBlob)
	commits(t, "Commit", s, "wc", parts)
	want, _, err := jobs.Mean(j, splits)
	isError(t, "Mean", err, api.OK)
	reads(t, "the output", s, "wc", want, api.OK)
	cleans(t, "Clean", s, "wc", 2+2+3, "wc", parts[0].Name, parts[1].Name, parts[2].Name)
	reads(t, "behind Clean", s, "wc", want, api.OK)
}

// Runs at random: each call is held against the document's words in a twin of the store.

// step does something to a store at random, mostly such that calls come to something.
func step(t *testing.T, random *rand.Rand, s *store.Store, out string) {
	t.Helper()
	name := plainName(out, random.Intn(3), random.Intn(2))
	if random.Intn(5) == 0 {
		name = []string{out, out + ".m0.1", out + ".", out + "-", "9"}[random.Intn(5)]
	}
	switch random.Intn(12) {
	case 0:
		s.Flip(name, int64(random.Intn(200)), random.Uint32())
	case 1:
		s.Resize(name, int64(random.Intn(9)-4))
	case 2:
		s.Delete(name)
	case 3, 4:
		s.Publish(name)
	default:
		s.Create(name)
		s.Append(name, []byte(randomText(random)))
		if random.Intn(4) > 0 {
			s.Publish(name)
		}
	}
}

// randomReports tells reports of what is there, now and then with something wrong.
func randomReports(random *rand.Rand, s *store.Store, out string) []api.Report {
	var reports []api.Report
	for task := range 1 + random.Intn(3) {
		r := api.Report{Task: task, Attempt: random.Intn(2)}
		if look(s, plainName(out, task, r.Attempt)).State != api.BlobOut {
			r.Attempt = 1 - r.Attempt
		}
		r.Name = plainName(out, task, r.Attempt)
		r.Length = int64(look(s, r.Name).Size)
		r.Records = int64(random.Intn(300) - random.Intn(300)/299)
		switch random.Intn(40) {
		case 0:
			r.Task++
		case 1:
			r.Attempt--
		case 2:
			r.Length++
		case 3:
			r.Name += "0"
		}
		reports = append(reports, r)
	}
	if random.Intn(20) == 0 {
		return nil
	}
	return reports
}

func TestRandomRuns(t *testing.T) {
	random := rand.New(rand.NewSource(2010))
	ends := map[string]int{}
	for range 1500 {
		s := store.New()
		outs := []string{"wc", "wc-", "w", "9a"}
		for range 40 {
			out := outs[random.Intn(len(outs))*random.Intn(2)]
			what := fmt.Sprintf("%s over %.300s", out, fmt.Sprint(s.List("")))
			twin := copyOf(t, s)
			switch random.Intn(8) {
			case 0, 1:
				reports := randomReports(random, s, out)
				got, want := Commit(s, out, reports), plainCommit(t, twin, out, reports)
				isError(t, fmt.Sprintf("Commit of %+v %s", reports, what), got, want)
				ends[fmt.Sprint("Commit ", got)]++
			case 2, 3:
				got, err := Read(s, out)
				want, wantErr := plainRead(t, twin, out)
				isError(t, "Read "+what, err, wantErr)
				isSame(t, "Read "+what, got, want)
				ends[fmt.Sprint("Read ", err)]++
			case 4:
				if random.Intn(4) > 0 {
					break
				}
				got, want := Clean(s, out), plainClean(t, twin, out)
				if got != want {
					t.Fatalf("Clean %s: %d, and not %d", what, got, want)
				}
				ends[fmt.Sprint("Clean ", min(got, 2))]++
			default:
				step(t, random, s, outs[random.Intn(len(outs))*random.Intn(2)])
				continue
			}
			isSame(t, "blobs behind "+what, allOf(t, s), allOf(t, twin))
		}
	}
	for _, end := range []string{"Commit 0", "Commit 3", "Commit 50", "Commit 51", "Commit 201", "Read 0", "Read 50", "Read 52", "Read 53", "Read 200", "Read 201", "Clean 0", "Clean 1", "Clean 2"} {
		if ends[end] < 50 {
			t.Errorf("%s: only %d times", end, ends[end])
		}
	}
}
