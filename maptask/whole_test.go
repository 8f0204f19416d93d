package maptask

import (
	"fmt"
	"maps"
	"math/rand"
	"slices"
	"strconv"
	"strings"
	"sync"
	"testing"

	"winnow/api"
	"winnow/jobs"
	"winnow/lines"
	"winnow/parts"
	"winnow/spill"
	"winnow/store"
)

// 17.4

// Whatever the job and the split: the spill holds what the document says, and nothing else is there.
func TestWhatASpillHolds(t *testing.T) {
	t.Parallel()
	random := rand.New(rand.NewSource(1741))
	for range 400 {
		randomAttempt(random).holdsPlain(t)
	}
}

// Of a spill without combining, or with it, the output's lines are those of the job's meaning for this one split.
func TestMeaning(t *testing.T) {
	t.Parallel()
	random := rand.New(rand.NewSource(1742))
	for range 300 {
		a := randomAttempt(random)
		a.job.Parts = min(a.job.Parts, 7)
		report, s := a.works(t)
		texts := make([]string, a.job.Parts)
		list := held(t, s, report)
		for from := 0; from < len(list); {
			var values []string
			for _, r := range list[from:] {
				if r.Key != list[from].Key {
					break
				}
				values = append(values, r.Value)
			}
			for _, value := range jobs.Reduce(a.job.Kind, values) {
				texts[list[from].Part] += jobs.Line(list[from].Key, value)
			}
			from += len(values)
		}
		want, dropped, err := jobs.Mean(a.job, []api.Split{a.split})
		isError(t, "Mean", err, api.OK)
		isSame(t, a.String(), texts, want)
		if report.Dropped != dropped {
			t.Fatalf("%s: %d dropped, and not %d", a, report.Dropped, dropped)
		}
	}
}

// Splits at their edges, of each kind, with and without combining.
func TestSplits(t *testing.T) {
	t.Parallel()
	full := strings.Repeat("k", 1024)
	for _, text := range []string{
		"", "\n", "\n\n\n", "a", "a\n", "\na", "a\nb", "a\nb\n", "\r\n", "\x00", "\xff\n\xfe",
		"k\t1", "k\t1\n", "\t1\n\t2", "k\t", "\t", "k\t1\t2", "no", "no\n",
		full, full + "\t" + full, full + "\t1\n" + full + "\t2", full + "k", full + "\t" + full + "k", "a " + full + " " + full + "k b",
		full + "\n" + full[:1023] + "j\n" + full[:1023] + "\n" + full,
		strings.Repeat(full+"\t"+full+"\n", 20),
	} {
		for _, kind := range five() {
			for _, combine := range []bool{false, true} {
				for _, parts := range []int{1, 2, 65535} {
					a := example(text)
					a.job.Kind, a.job.Combine, a.job.Parts = kind, combine, parts
					a.split.Offset = 7
					a.holdsPlain(t)
				}
			}
		}
	}
}

// A spill of a range partitioner has rising keys from its first record to its last (P9).
func TestKeysRise(t *testing.T) {
	t.Parallel()
	random := rand.New(rand.NewSource(1743))
	for range 200 {
		a := randomAttempt(random)
		a.job.Parts, a.job.Bounds = 4, []string{"a", "b", "b"}
		report, s := a.works(t)
		last := ""
		for _, r := range held(t, s, report) {
			if r.Key < last {
				t.Fatalf("%q behind %q", r.Key, last)
			}
			last = r.Key
		}
	}
}

// The splits of one text, each by a task of its own: all their records together are the text's, wherever it is cut (P8).
func TestTasksOfOneText(t *testing.T) {
	t.Parallel()
	random := rand.New(rand.NewSource(1744))
	for range 100 {
		text := randomSplit(random).Text
		splits, err := lines.Splits(text, []int{random.Intn(100), random.Intn(1000), random.Intn(10000)})
		isError(t, "Splits", err, api.OK)
		job := randomJob(random)
		job.Combine = false
		s := store.New()
		var all []api.Record
		var dropped int64
		for task, split := range splits {
			a := attempt{out: "o", job: job, task: task, number: 1, split: split}
			report, err := a.run(s)
			isError(t, "Run", err, api.OK)
			isError(t, "Publish", s.Publish(report.Name), api.OK)
			all = append(all, held(t, s, report)...)
			dropped += report.Dropped
		}
		given, want := plainGiven(job, api.Split{Text: text})
		isSame(t, "all records", plainWritten(job, all), plainWritten(job, given))
		if dropped != want {
			t.Fatalf("%d dropped, and not %d", dropped, want)
		}
	}
}

// 17.5

// Attempts of one task write the same bytes, whatever other attempts and tasks have left.
func TestAttemptsAreAlike(t *testing.T) {
	t.Parallel()
	random := rand.New(rand.NewSource(175))
	for range 100 {
		a := randomAttempt(random)
		a.number = 0
		want := a.bytes(t)
		s := store.New()
		for number := range 12 {
			b := a
			b.number = number
			switch number % 4 {
			case 1:
				_, err := b.stoppedAt(int64(random.Intn(len(want) + 9))).run(s)
				isError(t, "a stop", err, api.ErrStopped)
				continue
			case 2:
				b.task = (a.task + 1) % 256
				b.split = randomSplit(random)
			}
			report, err := b.run(s)
			isError(t, "Run", err, api.OK)
			if number%4 == 2 {
				continue
			}
			isError(t, "Publish", s.Publish(report.Name), api.OK)
			isSame(t, "the bytes of "+report.Name, bytesOf(t, s, report.Name), want)
		}
	}
}

// The output's name, the task's number and the split's beginning (where places are not written) are not in the bytes; nor is Tries.
func TestBytesHangOnLittle(t *testing.T) {
	a := example(strings.Repeat("b a c a ", 20))
	want := a.bytes(t)
	b := a
	b.out, b.task, b.number, b.split.Offset, b.job.Tries = "other", 9, 5, 1000, 16
	isSame(t, "the bytes", b.bytes(t), want)
}

// The bytes are a spill's of the records, as a writer makes it.
func TestBytesOfASpill(t *testing.T) {
	t.Parallel()
	random := rand.New(rand.NewSource(1751))
	for range 200 {
		a := randomAttempt(random)
		s := store.New()
		w, err := spill.Create(s, "plain", a.job.Parts, a.job.Shape)
		isError(t, "Create", err, api.OK)
		given, _ := plainGiven(a.job, a.split)
		for _, r := range plainWritten(a.job, given) {
			isError(t, "Add", w.Add(r), api.OK)
		}
		_, _, err = w.Close()
		isError(t, "Close", err, api.OK)
		isError(t, "Publish", s.Publish("plain"), api.OK)
		isSame(t, a.String(), a.bytes(t), bytesOf(t, s, "plain"))
	}
}

// 17.6

// With any budget and fan: the same bytes.
func TestBudgetsDoNotMatter(t *testing.T) {
	t.Parallel()
	var text strings.Builder
	for i := range 100 {
		fmt.Fprintf(&text, "w%d\t%d\nx%d %d\n", i*7%31, i%5, i%3, i)
	}
	text.WriteString(strings.Repeat("k", 1024) + "\t" + strings.Repeat("1", 15))
	for _, kind := range five() {
		for _, combine := range []bool{false, true} {
			a := example(text.String())
			a.job.Kind, a.job.Combine, a.job.Parts, a.job.Shape = kind, combine, 5, api.Shape{Block: 300, Restart: 5, Bits: 7}
			a.job.Budget, a.job.Fan = 1<<24, 64
			want := a.bytes(t)
			for _, budget := range []int{256, 257, 1000, 1 << 24} {
				for _, fan := range []int{2, 3, 7, 64} {
					a.job.Budget, a.job.Fan = budget, fan
					isSame(t, fmt.Sprint("kind, budget, fan ", kind, budget, fan), a.bytes(t), want)
				}
			}
		}
	}
}

// 17.7

// While an attempt is at work, and behind it, nobody can read its spill.
func TestNothingIsPublished(t *testing.T) {
	t.Parallel()
	random := rand.New(rand.NewSource(177))
	for range 100 {
		a := randomAttempt(random)
		if random.Intn(2) == 0 {
			a = a.stoppedAt(int64(random.Intn(2000)))
		}
		s := store.New()
		var watcher sync.WaitGroup
		done := make(chan struct{})
		watcher.Add(1)
		go func() {
			defer watcher.Done()
			for {
				if _, err := s.Size(a.name()); err != api.ErrNoBlob && err != api.ErrOpen {
					t.Errorf("Size of %s: %d", a.name(), err)
					return
				}
				select {
				case <-done:
					return
				default:
				}
			}
		}()
		_, err := a.run(s)
		close(done)
		watcher.Wait()
		if err != api.OK && err != api.ErrStopped {
			t.Fatalf("%s: %d", a, err)
		}
		isSame(t, "the spill's state", states(s, a.name()), []int{api.BlobOpen})
	}
}

// states tells the state of the blob of that name, if there is one.
func states(s *store.Store, name string) []int {
	for _, b := range s.List(name) {
		if b.Name == name {
			return []int{b.State}
		}
	}
	return nil
}

// deleteOne deletes a blob as soon as isTime, and tells whether it was there.
func deleteOne(s *store.Store, name string, isTime func() bool, done chan struct{}) bool {
	for !isTime() {
		select {
		case <-done:
			return false
		default:
		}
	}
	return s.Delete(name) == api.OK
}

// Runs that somebody else takes away when all of them has been read are told by the last step: no report, and the other runs are gone.
func TestRunsThatAreTakenAway(t *testing.T) {
	a := example(strings.Repeat("\n", 65536))
	a.job.Kind, a.job.Parts = api.JobSort, 1
	a.job.Budget, a.job.Fan, a.job.Shape = 1<<19, 64, api.Shape{Block: 65536, Restart: 64}
	inTime := 0
	for range 200 {
		s := store.New()
		done, deleted := make(chan struct{}), make(chan bool)
		go func() {
			// A block of the spill is written only when each run's one block has been read.
			deleted <- deleteOne(s, a.name()+".2", func() bool {
				l := s.List(a.name())
				return len(l) > 0 && l[0].Name == a.name() && l[0].Size > 0
			}, done)
		}()
		report, err := a.run(s)
		close(done)
		if !<-deleted {
			isError(t, "Run", err, api.OK)
			continue
		}
		isError(t, "a run was taken away", err, api.ErrNoBlob)
		if report != (api.Report{}) {
			t.Fatalf("beside an error: %+v", report)
		}
		left := s.List("")
		if len(left) != 1 || left[0].Name != a.name() || left[0].State != api.BlobOpen {
			t.Fatalf("blobs: %v", left)
		}
		if inTime++; inTime == 3 {
			return
		}
	}
	t.Logf("only %d came in time", inTime)
}

// Whatever run is taken away, whenever: the attempt has failed, and its report is empty.
func TestAnyRunThatIsTakenAway(t *testing.T) {
	t.Parallel()
	random := rand.New(rand.NewSource(1771))
	inTime := 0
	for range 40 {
		a := example(strings.Repeat("the quick brown fox\n", 50))
		a.job.Combine = random.Intn(2) == 0
		s := store.New()
		name := a.name() + "." + strconv.Itoa(1+random.Intn(30))
		done, deleted := make(chan struct{}), make(chan bool)
		go func() {
			deleted <- deleteOne(s, name, func() bool {
				_, err := s.Size(name)
				return err == api.OK
			}, done)
		}()
		report, err := a.run(s)
		close(done)
		if !<-deleted {
			continue
		}
		inTime++
		if err == api.OK || report != (api.Report{}) {
			t.Fatalf("%s was taken away: %+v, %d", name, report, err)
		}
	}
	t.Logf("%d came in time", inTime)
}

// 17.8

// bigTexts are splits of MaxSplit bytes, or nearly so: the most lines, the most words, the most keys, the longest ones.
func bigTexts() map[string]string {
	cut := func(text string) string { return text[:min(len(text), 65536)] }
	var keys, numbers strings.Builder
	for i := range 20000 {
		keys.WriteString(strconv.FormatInt(int64(i*7919%17000), 36) + "\n")
		numbers.WriteString(strconv.FormatInt(int64(i*7919%17000), 36) + "\t" + strconv.Itoa(i%10) + "\n")
	}
	return map[string]string{
		"no lines":   strings.Repeat("-", 65536),
		"lines":      strings.Repeat("\n", 65536),
		"words":      strings.Repeat("a ", 32768),
		"keys":       cut(keys.String()),
		"numbers":    cut(numbers.String()),
		"long lines": strings.Repeat(strings.Repeat("l", 1023)+"\n", 64),
		"long pairs": strings.Repeat(strings.Repeat("k", 1024)+"\t"+strings.Repeat("v", 1022)+"\n", 32),
		"too long":   strings.Repeat("l", 65536),
	}
}

func TestNoRefusalWithoutReason(t *testing.T) {
	t.Parallel()
	random := rand.New(rand.NewSource(178))
	texts := bigTexts()
	for _, what := range slices.Sorted(maps.Keys(texts)) {
		for _, kind := range five() {
			a := attempt{out: "abcdefghijkl", task: 255, number: 9999, split: api.Split{Offset: 1 << 62, Text: texts[what]}}
			a.job = randomJob(random)
			a.job.Kind = kind
			a.job.Parts, a.job.Bounds = []int{1, 3, 65535}[random.Intn(3)], nil
			a.job.Shape.Block = max(a.job.Shape.Block, 1000)
			a.job.Budget = []int{1 << 15, 1 << 18, 1 << 24}[random.Intn(3)]
			given, dropped := plainGiven(a.job, a.split)
			report, s := a.works(t)
			isSame(t, what, held(t, s, report), plainWritten(a.job, given))
			if report.Dropped != dropped {
				t.Fatalf("%s: %d dropped, and not %d", what, report.Dropped, dropped)
			}
		}
	}
}

// The least budget and fan with the most records, and the most partitions with the most keys: by hash, and by bounds.
func TestLeastBudget(t *testing.T) {
	t.Parallel()
	texts := bigTexts()
	bounds := make([]string, 65534)
	for i := range bounds {
		bounds[i] = strconv.FormatInt(int64(i), 36)
	}
	slices.Sort(bounds)
	for _, c := range []struct {
		text    string
		kind    int
		parts   int
		bounds  []string
		combine bool
	}{
		{"lines", api.JobSort, 1, nil, true},
		{"lines", api.JobDistinct, 65535, bounds, true},
		{"keys", api.JobIndex, 65535, nil, false},
		{"numbers", api.JobSum, 65535, bounds, true},
	} {
		t.Run(fmt.Sprint(c.text, c.kind), func(t *testing.T) {
			t.Parallel()
			a := attempt{out: "abcdefghijkl", task: 255, number: 9999, split: api.Split{Text: texts[c.text]}}
			a.job = api.Job{Kind: c.kind, Parts: c.parts, Bounds: c.bounds, Combine: c.combine, Budget: 256, Fan: 2, Shape: api.Shape{Block: 65536, Restart: 64, Bits: 16}}
			report, s := a.works(t)
			// To tell each key's partition in plain words would take too long: with bounds all keys rise.
			plain := a.job
			if c.bounds != nil {
				plain.Parts, plain.Bounds = 1, nil
			}
			given, _ := plainGiven(plain, a.split)
			want := plainWritten(plain, given)
			got := held(t, s, report)
			for i := range got {
				if c.bounds != nil {
					if i%20 == 0 && got[i].Part != parts.Of(a.job, got[i].Key) {
						t.Fatalf("%q is in partition %d", got[i].Key, got[i].Part)
					}
					got[i].Part = 0
				}
			}
			isSame(t, c.text, got, want)
		})
	}
}
