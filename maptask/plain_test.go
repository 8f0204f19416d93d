package maptask

import (
	"fmt"
	"hash/crc32"
	"math/big"
	"math/rand"
	"regexp"
	"slices"
	"strings"
	"testing"

	"winnow/api"
	"winnow/extsort"
	"winnow/spill"
	"winnow/store"
)

// The calls have these signatures, to the letter.
var (
	_ func(s *store.Store, out string, j api.Job, task, attempt int, split api.Split, at int64, stops bool) (api.Report, api.Errno) = Run
	_ func(out string, task, attempt int) string                                                                                    = Name
)

// attempt is all that Run is handed beside the store.
type attempt struct {
	out          string
	job          api.Job
	task, number int
	split        api.Split
	at           int64
	stops        bool
}

func (a attempt) run(s *store.Store) (api.Report, api.Errno) {
	return Run(s, a.out, a.job, a.task, a.number, a.split, a.at, a.stops)
}

// name goes by the words of 17.1, of numbers that are not below 0.
func (a attempt) name() string {
	return fmt.Sprintf("%s.m%d.%d", a.out, a.task, a.number)
}

func (a attempt) stoppedAt(at int64) attempt {
	a.at, a.stops = at, true
	return a
}

// exampleJob is the job of the chapter's examples.
func exampleJob() api.Job {
	return api.Job{Kind: api.JobCount, Parts: 2, Budget: 256, Fan: 2, Tries: 1, Shape: api.Shape{Block: 64, Restart: 2}}
}

// example is an attempt of the examples' job over a text.
func example(text string) attempt {
	return attempt{out: "wc", job: exampleJob(), task: 0, number: 1, split: api.Split{Text: text}}
}

// five are the kinds that there are.
func five() []int {
	return []int{api.JobCount, api.JobIndex, api.JobSum, api.JobSort, api.JobDistinct}
}

var (
	plainNumbers = regexp.MustCompile(`^(0|-?[1-9][0-9]{0,18})$`)
	plainWords   = regexp.MustCompile(`[a-zA-Z0-9]+`)
)

// plainNumber goes by the words of chapter 15.
func plainNumber(text string) (*big.Int, bool) {
	if !plainNumbers.MatchString(text) {
		return nil, false
	}
	number, _ := new(big.Int).SetString(text, 10)
	return number, number.IsInt64()
}

// plainMap goes by the table of chapter 15.
func plainMap(kind int, place int64, line string) (pairs []api.Pair, dropped int64) {
	key, value, tab := strings.Cut(line, "\t")
	var all []api.Pair
	switch kind {
	case api.JobCount, api.JobIndex:
		for _, word := range plainWords.FindAllString(line, -1) {
			told := "1"
			if kind == api.JobIndex {
				told = fmt.Sprint(place)
			}
			all = append(all, api.Pair{Key: word, Value: told})
		}
	case api.JobSum:
		if _, is := plainNumber(value); !is || !tab {
			return nil, 1
		}
		all = append(all, api.Pair{Key: key, Value: value})
	case api.JobSort:
		all = append(all, api.Pair{Key: key, Value: value})
	case api.JobDistinct:
		all = append(all, api.Pair{Key: line})
	}
	for _, p := range all {
		if len(p.Key) > 1024 || len(p.Value) > 1024 {
			dropped++
		} else {
			pairs = append(pairs, p)
		}
	}
	return pairs, dropped
}

// plainCombine goes by the table of chapter 15, of some values.
func plainCombine(kind int, values []string) []string {
	switch kind {
	case api.JobCount, api.JobSum:
		sum := new(big.Int)
		for _, value := range values {
			if number, is := plainNumber(value); is {
				sum.Add(sum, number)
			}
		}
		// Modulo 2^64, as an int64.
		word := new(big.Int).And(sum, new(big.Int).SetUint64(1<<64-1))
		return []string{fmt.Sprint(int64(word.Uint64()))}
	case api.JobDistinct:
		return values[:1]
	}
	return values
}

// plainPart goes by the words of chapter 14.
func plainPart(j api.Job, key string) int {
	if len(j.Bounds) == 0 {
		return int(crc32.Checksum([]byte(key), crc32.MakeTable(crc32.Castagnoli)) % uint32(j.Parts))
	}
	part := 0
	for _, bound := range j.Bounds {
		if bound <= key {
			part++
		}
	}
	return part
}

// plainGiven tells what the lines of a split give, in order, and how many things were dropped.
func plainGiven(j api.Job, split api.Split) (given []api.Record, dropped int64) {
	at := split.Offset
	for _, line := range strings.SplitAfter(split.Text, "\n") {
		if line == "" {
			continue
		}
		pairs, count := plainMap(j.Kind, at, strings.TrimSuffix(line, "\n"))
		for _, p := range pairs {
			given = append(given, api.Record{Part: plainPart(j, p.Key), Key: p.Key, Value: p.Value})
		}
		dropped += count
		at += int64(len(line))
	}
	return given, dropped
}

// plainWritten tells what a spill holds of what was given, in order.
func plainWritten(j api.Job, given []api.Record) []api.Record {
	given = slices.Clone(given)
	slices.SortStableFunc(given, func(a, b api.Record) int {
		if a.Part != b.Part {
			return a.Part - b.Part
		}
		return strings.Compare(a.Key, b.Key)
	})
	if !j.Combine {
		return given
	}
	var written []api.Record
	for from := 0; from < len(given); {
		var values []string
		for _, r := range given[from:] {
			if r.Key != given[from].Key || r.Part != given[from].Part {
				break
			}
			values = append(values, r.Value)
		}
		for _, value := range plainCombine(j.Kind, values) {
			written = append(written, api.Record{Part: given[from].Part, Key: given[from].Key, Value: value})
		}
		from += len(values)
	}
	return written
}

// plainRefusal goes by the words of 17.2, down to those of extsort.New.
func (a attempt) plainRefusal(s *store.Store) api.Errno {
	j := a.job
	badBounds := len(j.Bounds) > 0 && len(j.Bounds) != j.Parts-1
	for i, bound := range j.Bounds {
		badBounds = badBounds || len(bound) > 1024 || i > 0 && bound < j.Bounds[i-1]
	}
	sh := j.Shape
	switch {
	case s == nil:
		return api.ErrNil
	case len(a.split.Text) > 65536:
		return api.ErrLong
	case a.task < 0 || a.task > 255 || a.number < 0:
		return api.ErrArg
	case j.Kind < 0 || j.Kind > 4:
		return api.ErrJob
	case j.Parts < 1 || j.Parts > 65535:
		return api.ErrArg
	case badBounds:
		return api.ErrBounds
	case j.Budget < 256 || j.Budget > 1<<24 || j.Fan < 2 || j.Fan > 64:
		return api.ErrArg
	case sh.Block < 64 || sh.Block > 65536 || sh.Restart < 1 || sh.Restart > 64 || sh.Bits < 0 || sh.Bits > 16:
		return api.ErrArg
	}
	return api.OK
}

// plainRun goes by the words of 17.2, step by step.
func (a attempt) plainRun(s *store.Store) (api.Report, api.Errno) {
	none := api.Report{}
	if err := a.plainRefusal(s); err != api.OK {
		return none, err
	}
	j := a.job
	given, dropped := plainGiven(j, a.split)
	x, err := extsort.New(s, a.name(), j.Parts, j.Budget, j.Fan, j.Shape)
	if err != api.OK {
		return none, err
	}
	for _, r := range given {
		if err := x.Add(r); err != api.OK {
			return none, err
		}
	}
	sorted, err := x.Finish()
	if err != api.OK {
		return none, err
	}
	w, err := spill.Create(s, a.name(), j.Parts, j.Shape)
	if err != api.OK {
		return none, err
	}
	if a.stops {
		if err := s.StopAt(a.name(), a.at); err != api.OK {
			return none, err
		}
	}
	for _, r := range plainWritten(j, given) {
		if err := w.Add(r); err != api.OK {
			return none, err
		}
	}
	length, records, err := w.Close()
	if err != api.OK {
		return none, err
	}
	if a.stops {
		return none, api.ErrStopped
	}
	if err := sorted.Close(); err != api.OK {
		return none, err
	}
	return api.Report{Task: a.task, Attempt: a.number, Name: a.name(), Length: length, Records: records, Dropped: dropped}, api.OK
}

// runsOf tells the runs that are left when all has been given to a sorter, and nobody has taken them away.
func (a attempt) runsOf(t *testing.T) []api.BlobInfo {
	t.Helper()
	s := store.New()
	x, err := extsort.New(s, a.name(), a.job.Parts, a.job.Budget, a.job.Fan, a.job.Shape)
	isError(t, "a sorter", err, api.OK)
	given, _ := plainGiven(a.job, a.split)
	for _, r := range given {
		isError(t, "Add", x.Add(r), api.OK)
	}
	_, err = x.Finish()
	isError(t, "Finish", err, api.OK)
	return s.List("")
}

// same runs an attempt in a store, and by the document's words in its twin, and holds all against one another.
func (a attempt) same(t *testing.T, s, twin *store.Store) (api.Report, api.Errno) {
	t.Helper()
	report, err := a.run(s)
	want, wantErr := a.plainRun(twin)
	if report != want || err != wantErr {
		t.Fatalf("%s: %+v, %d, and not %+v, %d", a, report, err, want, wantErr)
	}
	isSame(t, "blobs behind "+a.String(), s.List(""), twin.List(""))
	for _, b := range s.List("") {
		if b.State == api.BlobOut {
			isSame(t, b.Name, bytesOf(t, s, b.Name), bytesOf(t, twin, b.Name))
		}
	}
	return report, err
}

// works asks for an attempt that works, in a store of its own, and tells its report, and the store with the published spill.
func (a attempt) works(t *testing.T) (api.Report, *store.Store) {
	t.Helper()
	s := store.New()
	report, err := a.run(s)
	isError(t, a.String(), err, api.OK)
	isSame(t, "blobs", s.List(""), []api.BlobInfo{{Name: a.name(), State: api.BlobOpen, Size: int(report.Length)}})
	isError(t, "Publish", s.Publish(a.name()), api.OK)
	return report, s
}

// bytes tells the bytes of an attempt that works.
func (a attempt) bytes(t *testing.T) []byte {
	t.Helper()
	_, s := a.works(t)
	return bytesOf(t, s, a.name())
}

// held tells the records of a published spill, by partitions.
func held(t *testing.T, s *store.Store, report api.Report) []api.Record {
	t.Helper()
	r, err := spill.Open(s, report.Name, report.Length)
	isError(t, "Open of "+report.Name, err, api.OK)
	var list []api.Record
	for _, part := range partsOf(r) {
		c, err := r.Scan(part)
		isError(t, "Scan", err, api.OK)
		for {
			pair, some, err := c.Next()
			isError(t, "Next", err, api.OK)
			if !some {
				break
			}
			list = append(list, api.Record{Part: part, Key: pair.Key, Value: pair.Value})
		}
	}
	return list
}

// partsOf tells the partitions that are to be gone through: all, or, where there are very many, those that have records.
func partsOf(r *spill.Reader) []int {
	var list []int
	if r.Parts() > 100 {
		for _, info := range r.Foot().Infos {
			list = append(list, info.Part)
		}
		return list
	}
	for part := range r.Parts() {
		list = append(list, part)
	}
	return list
}

// holds asks for an attempt that works, and whose spill holds just that.
func (a attempt) holds(t *testing.T, dropped int64, want ...api.Record) {
	t.Helper()
	report, s := a.works(t)
	length, err := s.Size(a.name())
	isError(t, "Size", err, api.OK)
	if whole := (api.Report{Task: a.task, Attempt: a.number, Name: a.name(), Length: length, Records: int64(len(want)), Dropped: dropped}); report != whole {
		t.Fatalf("%s: %+v, and not %+v", a, report, whole)
	}
	r, err := spill.Open(s, report.Name, report.Length)
	isError(t, "Open", err, api.OK)
	if r.Parts() != a.job.Parts {
		t.Fatalf("%s: %d partitions", a, r.Parts())
	}
	isSame(t, a.String(), held(t, s, report), want)
}

// holdsPlain asks for an attempt whose spill holds what the document says.
func (a attempt) holdsPlain(t *testing.T) {
	t.Helper()
	given, dropped := plainGiven(a.job, a.split)
	a.holds(t, dropped, plainWritten(a.job, given)...)
}

// refuses asks for an error, and a store that stays as it was.
func (a attempt) refuses(t *testing.T, want api.Errno) {
	t.Helper()
	s := busyStore(t)
	before := s.List("")
	report, err := a.run(s)
	isError(t, a.String(), err, want)
	if report != (api.Report{}) {
		t.Fatalf("beside an error: %+v", report)
	}
	isSame(t, "blobs behind a refusal", s.List(""), before)
}

// busyStore tells a store with some blobs that no attempt here has to do with.
func busyStore(t *testing.T) *store.Store {
	t.Helper()
	s := store.New()
	for i, name := range []string{"wc", "wc.r0.1", "wc.m7.1", "wc.m7.1.1", "wcs.m0.1", "x"} {
		leave(t, s, name, i%2 == 0)
	}
	return s
}

// leave leaves a blob behind.
func leave(t *testing.T, s *store.Store, name string, out bool) {
	t.Helper()
	isError(t, "Create of "+name, s.Create(name), api.OK)
	isError(t, "Append", s.Append(name, []byte("left "+name)), api.OK)
	if out {
		isError(t, "Publish", s.Publish(name), api.OK)
	}
}

func bytesOf(t *testing.T, s *store.Store, name string) []byte {
	t.Helper()
	b, err := s.Read(name, 0, api.MaxBlob)
	isError(t, "Read of "+name, err, api.OK)
	return b
}

// String tells an attempt in few words: its text and its bounds may be long.
func (a attempt) String() string {
	j, text := a.job, a.split.Text
	bounds := j.Bounds[:min(len(j.Bounds), 5)]
	j.Bounds = nil
	return fmt.Sprintf("%s of %+v, bounds %.40q, from %d on %.200q, stop %d, %v", a.name(), j, bounds, a.split.Offset, text[:min(len(text), 200)], a.at, a.stops)
}

// written tells a value's beginning as Go writes it, so that each byte is seen.
func written(value any) string {
	return fmt.Sprintf("%.400s", fmt.Sprintf("%#v", value))
}

func isError(t *testing.T, what string, got, want api.Errno) {
	t.Helper()
	if got != want {
		t.Fatalf("%.400s: error %d, and not %d", what, got, want)
	}
}

func isSame[T comparable](t *testing.T, what string, got, want []T) {
	t.Helper()
	if slices.Equal(got, want) {
		return
	}
	i := 0
	for i < min(len(got), len(want)) && got[i] == want[i] {
		i++
	}
	t.Fatalf("%.400s: %d, and not %d; from number %d on %s, and not %s", what, len(got), len(want), i, written(got[i:]), written(want[i:]))
}

// randomText tells some bytes of few kinds.
func randomText(random *rand.Rand, of string, most int) string {
	b := make([]byte, random.Intn(most+1))
	for i := range b {
		b[i] = of[random.Intn(len(of))]
	}
	return string(b)
}

// randomLine tells a line: mostly short, with words, TABs and numbers, so that keys are alike; now and then one of which something may be dropped.
func randomLine(random *rand.Rand) string {
	switch random.Intn(12) {
	case 0:
		return strings.Repeat("w", 1020+random.Intn(10)) + "\t" + strings.Repeat("7", 1020+random.Intn(10))
	case 1:
		b := make([]byte, random.Intn(30))
		random.Read(b)
		return strings.ReplaceAll(string(b), "\n", "\r")
	case 2, 3, 4:
		return randomText(random, "ab", 2) + "\t" + fmt.Sprint(random.Intn(30)-5)
	case 5:
		return randomText(random, "ab", 2) + "\t" + fmt.Sprint(int64(random.Uint64()))
	}
	return randomText(random, "ab \t-", 12)
}

// randomSplit tells a split of some lines, of which the last one may have no line feed.
func randomSplit(random *rand.Rand) api.Split {
	split := api.Split{Offset: int64(random.Intn(1000))}
	if random.Intn(5) == 0 {
		split.Offset = int64(random.Uint64())
	}
	for range random.Intn(1 << random.Intn(7)) {
		split.Text += randomLine(random) + "\n"
	}
	if random.Intn(2) == 0 {
		split.Text += randomLine(random)
	}
	return split
}

// randomJob tells a job that may be, by hash or by bounds.
func randomJob(random *rand.Rand) api.Job {
	j := api.Job{
		Kind:    random.Intn(5),
		Parts:   []int{1, 2, 3, 7, 65535}[random.Intn(5)],
		Combine: random.Intn(2) == 0,
		Budget:  []int{256, 300, 1000, 10000, 1 << 24}[random.Intn(5)],
		Fan:     []int{2, 3, 5, 64}[random.Intn(4)],
		Tries:   random.Intn(20) - 2,
		Shape: api.Shape{
			Block:   []int{64, 100, 4096, 65536}[random.Intn(4)],
			Restart: 1 + random.Intn(64),
			Bits:    random.Intn(17),
		},
	}
	if j.Parts < 10 && random.Intn(2) == 0 {
		for range j.Parts - 1 {
			j.Bounds = append(j.Bounds, randomText(random, "ab w", 3))
		}
		slices.Sort(j.Bounds)
	}
	return j
}

// randomAttempt tells an attempt that may be.
func randomAttempt(random *rand.Rand) attempt {
	return attempt{
		out:    []string{"o", "wc", "a-long-name1"}[random.Intn(3)],
		job:    randomJob(random),
		task:   []int{0, 1, 9, 255}[random.Intn(4)],
		number: []int{0, 1, 2, 17, 9999}[random.Intn(5)],
		split:  randomSplit(random),
	}
}
