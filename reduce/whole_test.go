package reduce

import (
	"fmt"
	"math/rand"
	"slices"
	"strings"
	"testing"

	"winnow/api"
	"winnow/jobs"
	"winnow/lines"
	"winnow/maptask"
	"winnow/store"
)

// 18.8

// Whatever spills, with whatever shapes and filters: the part has the lines of a plain sort of all records.
func TestWhatAPartHas(t *testing.T) {
	t.Parallel()
	random := rand.New(rand.NewSource(188))
	for range 500 {
		s, a, sheets := randomAttempt(t, random)
		a.writesPlain(t, s, sheets)
	}
}

// The same records in spills of other shapes: the same part.
func TestShapesDoNotMatter(t *testing.T) {
	t.Parallel()
	random := rand.New(rand.NewSource(1881))
	for range 60 {
		sheets := randomSheets(random, 4, 2)
		kind := random.Intn(5)
		want := ""
		for try := range 5 {
			for i := range sheets {
				sheets[i].shape = randomShape(random)
			}
			s, a := attemptOver(t, sheets, 0)
			a.job.Kind = kind
			_, err := a.run(s)
			isError(t, "Run", err, api.OK)
			got := string(bytesOf(t, s, a.name()))
			if try > 0 && got != want {
				t.Fatalf("%q, and not %q", got, want)
			}
			want = got
		}
	}
}

// However the records of a sheet are dealt out to neighbouring spills: the same part.
func TestNeighboursDoNotMatter(t *testing.T) {
	t.Parallel()
	random := rand.New(rand.NewSource(1882))
	for range 100 {
		var all []api.Record
		for range random.Intn(200) {
			all = append(all, randomRecord(random, 1))
		}
		kind := random.Intn(5)
		var want string
		for try := range 4 {
			var sheets []sheet
			for from := 0; from < len(all); {
				to := min(len(all), from+1+random.Intn(60))
				if try == 0 {
					to = len(all)
				}
				h := sheet{parts: 1, shape: randomShape(random), records: slices.Clone(all[from:to])}
				slices.SortStableFunc(h.records, func(a, b api.Record) int { return strings.Compare(a.Key, b.Key) })
				sheets = append(sheets, h)
				from = to
			}
			s, a := attemptOver(t, sheets, 0)
			a.job = api.Job{Kind: kind, Parts: 1}
			_, err := a.run(s)
			isError(t, "Run", err, api.OK)
			got := string(bytesOf(t, s, a.name()))
			if try > 0 && got != want {
				t.Fatalf("%q, and not %q", got, want)
			}
			want = got
		}
	}
}

// randomLine tells a line with words, TABs and numbers, so that keys are alike.
func randomLine(random *rand.Rand) string {
	switch random.Intn(8) {
	case 0:
		return strings.Repeat("w", 1020+random.Intn(10))
	case 1, 2, 3:
		return randomText(random, "ab", 2) + "\t" + fmt.Sprint(random.Intn(30)-5)
	}
	return randomText(random, "ab \t-", 12)
}

// randomJob tells a job that may be, by hash or by bounds.
func randomJob(random *rand.Rand) api.Job {
	j := api.Job{
		Kind: random.Intn(5), Parts: 1 + random.Intn(6), Combine: random.Intn(2) == 0,
		Budget: []int{256, 1000, 1 << 20}[random.Intn(3)], Fan: 2 + random.Intn(6), Tries: 1, Shape: randomShape(random),
	}
	if random.Intn(2) == 0 {
		for range j.Parts - 1 {
			j.Bounds = append(j.Bounds, randomText(random, "ab w", 3))
		}
		slices.Sort(j.Bounds)
	}
	return j
}

// whole runs all tasks of a job, and tells the parts, and how many things were dropped.
func whole(t *testing.T, s *store.Store, j api.Job, splits []api.Split) ([]string, int64) {
	t.Helper()
	var reports []api.Report
	dropped := int64(0)
	for task, split := range splits {
		report, err := maptask.Run(s, "o", j, task, 1, split, 0, false)
		isError(t, "a map task", err, api.OK)
		isError(t, "Publish", s.Publish(report.Name), api.OK)
		reports = append(reports, report)
		dropped += report.Dropped
	}
	var texts []string
	for task := range j.Parts {
		verdict, err := Run(s, "o", j, task, 1, reports, 0, false)
		isError(t, "a reduce task", err, api.OK)
		text := bytesOf(t, s, verdict.Report.Name)
		want := api.Verdict{Report: api.Report{Task: task, Attempt: 1, Name: fmt.Sprintf("o.r%d.1", task), Length: int64(len(text)), Records: verdict.Report.Records}}
		isVerdict(t, "its verdict", verdict, err, want, api.OK)
		texts = append(texts, string(text))
	}
	return texts, dropped
}

// All tasks of a job: the parts are what the job plainly means, with or without combining, however the text is cut (P4, P7, P8).
func TestWholeJobs(t *testing.T) {
	t.Parallel()
	random := rand.New(rand.NewSource(1883))
	for range 150 {
		var text strings.Builder
		for range random.Intn(200) {
			text.WriteString(randomLine(random) + "\n")
		}
		text.WriteString(randomLine(random))
		j := randomJob(random)
		for range 2 {
			places := make([]int, random.Intn(6))
			for i := range places {
				places[i] = random.Int()
			}
			splits, err := lines.Splits(text.String(), places)
			isError(t, "Splits", err, api.OK)
			want, wantDropped, err := jobs.Mean(j, splits)
			isError(t, "Mean", err, api.OK)
			texts, dropped := whole(t, store.New(), j, splits)
			isSame(t, fmt.Sprintf("%+v", j), texts, want)
			if dropped != wantDropped {
				t.Fatalf("%d are dropped, and not %d", dropped, wantDropped)
			}
			j.Combine = !j.Combine
		}
	}
}

// As many map tasks as there may be.
func TestMostMapTasks(t *testing.T) {
	t.Parallel()
	var text strings.Builder
	for i := range 3000 {
		fmt.Fprintf(&text, "w%d\t%d\n", i*7%31, i%50)
	}
	places := make([]int, 255)
	for i := range places {
		places[i] = (i + 1) * text.Len() / 256
	}
	splits, err := lines.Splits(text.String(), places)
	isError(t, "Splits", err, api.OK)
	if len(splits) != api.MaxTasks {
		t.Fatalf("%d splits", len(splits))
	}
	for _, kind := range five() {
		j := api.Job{Kind: kind, Parts: 3, Combine: kind%2 == 0, Budget: 256, Fan: 2, Tries: 1, Shape: api.Shape{Block: 1000, Restart: 8, Bits: 8}}
		want, _, err := jobs.Mean(j, splits)
		isError(t, "Mean", err, api.OK)
		texts, _ := whole(t, store.New(), j, splits)
		isSame(t, fmt.Sprint("kind ", kind), texts, want)
	}
}

// With bounds the parts, one behind the other, have rising keys; with any partitioner all records of a key are in one part (P9).
func TestKeysOfParts(t *testing.T) {
	t.Parallel()
	random := rand.New(rand.NewSource(1884))
	for range 100 {
		var splits []api.Split
		for range 3 {
			text := ""
			for range random.Intn(40) {
				text += randomText(random, "abc", 3) + "\n"
			}
			splits = append(splits, api.Split{Text: text})
		}
		j := randomJob(random)
		j.Kind = api.JobDistinct
		texts, _ := whole(t, store.New(), j, splits)
		var keys []string
		for _, text := range texts {
			for _, line := range lines.Lines(text) {
				keys = append(keys, strings.TrimSuffix(line, "\t"))
			}
		}
		if len(j.Bounds) == 0 {
			slices.Sort(keys)
		}
		for i := range keys {
			if i > 0 && keys[i] <= keys[i-1] {
				t.Fatalf("%q behind %q, with %q", keys[i], keys[i-1], j.Bounds)
			}
		}
	}
}

// 18.10

// Two attempts over the same spills: the same lines, whatever other attempts and tasks have left.
func TestAttemptsAreAlike(t *testing.T) {
	t.Parallel()
	random := rand.New(rand.NewSource(1810))
	for range 150 {
		s, a, sheets := randomAttempt(t, random)
		want, count := plainPart(a.job.Kind, pairsOf(sheets, a.task))
		for number := 1; number < 8; number++ {
			a.number = number
			switch number % 3 {
			case 0:
				verdict, err := a.stoppedAt(int64(random.Intn(len(want) + 9))).run(s)
				isVerdict(t, "a stop", verdict, err, api.Verdict{Kind: api.ReduceStopped}, api.OK)
			case 1:
				a.writes(t, s, want, count)
			case 2:
				b := a
				b.task = (a.task + 1) % a.job.Parts
				b.out = "other"
				b.writesPlain(t, s, sheets)
			}
		}
	}
}

// The names and numbers of the output, of the attempts and of the spills are not in the bytes; nor is what a job has for map tasks alone.
func TestBytesHangOnLittle(t *testing.T) {
	s, a := example(t)
	a.writes(t, s, "a\t2\nb\t2\n", 2)
	b := a
	b.out, b.number, b.at = "other", 77, 5
	b.job.Combine, b.job.Budget, b.job.Fan, b.job.Tries, b.job.Shape = true, 256, 64, 16, api.Shape{Block: 100, Restart: 1}
	for i, h := range exampleSheets() {
		b.spills = slices.Clone(b.spills)
		b.spills[i] = h.lay(t, s, fmt.Sprint("elsewhere.", i), i, 9-i)
	}
	b.writes(t, s, "a\t2\nb\t2\n", 2)
}
