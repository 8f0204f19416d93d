package reduce

import (
	"fmt"
	"math/big"
	"math/rand"
	"regexp"
	"slices"
	"strings"
	"testing"

	"winnow/api"
	"winnow/spill"
	"winnow/store"
)

// The calls have these signatures, to the letter.
var (
	_ func(s *store.Store, out string, j api.Job, task, attempt int, spills []api.Report, at int64, stops bool) (api.Verdict, api.Errno) = Run
	_ func(out string, task, attempt int) string                                                                                         = Name
)

// attempt is all that Run is handed beside the store.
type attempt struct {
	out          string
	job          api.Job
	task, number int
	spills       []api.Report
	at           int64
	stops        bool
}

func (a attempt) run(s *store.Store) (api.Verdict, api.Errno) {
	return Run(s, a.out, a.job, a.task, a.number, a.spills, a.at, a.stops)
}

// name goes by the words of 18.1, of numbers that are not below 0.
func (a attempt) name() string {
	return fmt.Sprintf("%s.r%d.%d", a.out, a.task, a.number)
}

func (a attempt) stoppedAt(at int64) attempt {
	a.at, a.stops = at, true
	return a
}

// five are the kinds that there are.
func five() []int {
	return []int{api.JobCount, api.JobIndex, api.JobSum, api.JobSort, api.JobDistinct}
}

// smallShape makes many blocks of few records.
func smallShape() api.Shape { return api.Shape{Block: 64, Restart: 4} }

func rec(part int, key, value string) api.Record {
	return api.Record{Part: part, Key: key, Value: value}
}

// sheet is what a spill by hand holds: its records, in order.
type sheet struct {
	parts   int
	shape   api.Shape
	records []api.Record
}

// sheetOf tells a sheet of one partition: a key and a value, one behind the other.
func sheetOf(pairs ...string) sheet {
	h := sheet{parts: 1, shape: smallShape()}
	for i := 0; i < len(pairs); i += 2 {
		h.records = append(h.records, rec(0, pairs[i], pairs[i+1]))
	}
	return h
}

// lay writes a spill under a name, publishes it, and tells its report.
func (h sheet) lay(t *testing.T, s *store.Store, name string, task, number int) api.Report {
	t.Helper()
	w, err := spill.Create(s, name, h.parts, h.shape)
	isError(t, "Create of "+name, err, api.OK)
	for _, r := range h.records {
		isError(t, "Add", w.Add(r), api.OK)
	}
	length, count, err := w.Close()
	isError(t, "Close", err, api.OK)
	isError(t, "Publish", s.Publish(name), api.OK)
	return api.Report{Task: task, Attempt: number, Name: name, Length: length, Records: count}
}

// layAll lays a spill for each sheet, as the first attempts of map tasks.
func layAll(t *testing.T, s *store.Store, sheets []sheet) []api.Report {
	t.Helper()
	var reports []api.Report
	for task, h := range sheets {
		reports = append(reports, h.lay(t, s, fmt.Sprintf("o.m%d.1", task), task, 1))
	}
	return reports
}

// pairsOf tells the pairs of a partition, of all sheets in their order.
func pairsOf(sheets []sheet, part int) []api.Pair {
	var pairs []api.Pair
	for _, h := range sheets {
		for _, r := range h.records {
			if r.Part == part {
				pairs = append(pairs, api.Pair{Key: r.Key, Value: r.Value})
			}
		}
	}
	return pairs
}

// exampleSheets are the spills of the chapter's examples.
func exampleSheets() []sheet {
	return []sheet{sheetOf("a", "1", "b", "1", "b", "1"), sheetOf("a", "1")}
}

// example is a store with the spills of the chapter's examples, and an attempt over them.
func example(t *testing.T) (*store.Store, attempt) {
	t.Helper()
	return attemptOver(t, exampleSheets(), 0)
}

// attemptOver is a store with a spill for each sheet, and an attempt of a task over them, of the kind JobCount.
func attemptOver(t *testing.T, sheets []sheet, task int) (*store.Store, attempt) {
	t.Helper()
	s := store.New()
	a := attempt{out: "o", job: api.Job{Kind: api.JobCount, Parts: 1}, task: task, number: 1, spills: layAll(t, s, sheets)}
	if len(sheets) > 0 {
		a.job.Parts = sheets[0].parts
	}
	return s, a
}

var plainNumbers = regexp.MustCompile(`^(0|-?[1-9][0-9]{0,18})$`)

// plainNumber goes by the words of chapter 15.
func plainNumber(text string) (*big.Int, bool) {
	if !plainNumbers.MatchString(text) {
		return nil, false
	}
	number, _ := new(big.Int).SetString(text, 10)
	return number, number.IsInt64()
}

// plainReduce goes by the table of chapter 15, of some values.
func plainReduce(kind int, values []string) []string {
	var numbers []int64
	sum := new(big.Int)
	for _, value := range values {
		if number, is := plainNumber(value); is {
			numbers = append(numbers, number.Int64())
			sum.Add(sum, number)
		}
	}
	switch kind {
	case api.JobCount, api.JobSum:
		// Modulo 2^64, as an int64.
		word := new(big.Int).And(sum, new(big.Int).SetUint64(1<<64-1))
		return []string{fmt.Sprint(int64(word.Uint64()))}
	case api.JobIndex:
		slices.Sort(numbers)
		var list []string
		for _, number := range slices.Compact(numbers) {
			list = append(list, fmt.Sprint(number))
		}
		return list
	case api.JobDistinct:
		return values[:1]
	}
	return values
}

// plainPart tells the bytes of a part of pairs, the spills' one behind the other, and how many lines it has.
func plainPart(kind int, pairs []api.Pair) (string, int64) {
	pairs = slices.Clone(pairs)
	slices.SortStableFunc(pairs, func(a, b api.Pair) int { return strings.Compare(a.Key, b.Key) })
	var text strings.Builder
	count := int64(0)
	for from := 0; from < len(pairs); {
		key := pairs[from].Key
		var values []string
		for _, p := range pairs[from:] {
			if p.Key != key {
				break
			}
			values = append(values, p.Value)
		}
		for _, value := range plainReduce(kind, values) {
			text.WriteString(key + "\t" + value + "\n")
			count++
		}
		from += len(values)
	}
	return text.String(), count
}

// plainRefusal goes by the words of 18.2.
func (a attempt) plainRefusal(s *store.Store) api.Errno {
	misplaced := len(a.spills) > 256
	for i, report := range a.spills {
		misplaced = misplaced || report.Task != i
	}
	switch {
	case s == nil:
		return api.ErrNil
	case a.job.Parts < 1 || a.job.Parts > 65535 || a.task < 0 || a.task >= a.job.Parts || a.number < 1:
		return api.ErrArg
	case a.job.Kind < 0 || a.job.Kind > 4:
		return api.ErrJob
	case misplaced:
		return api.ErrSpills
	}
	return api.OK
}

// scanned tells a partition's pairs, up to the error with which its scan ends.
func scanned(t *testing.T, r *spill.Reader, part int) ([]api.Pair, api.Errno) {
	t.Helper()
	c, err := r.Scan(part)
	isError(t, "Scan", err, api.OK)
	var pairs []api.Pair
	for {
		pair, some, err := c.Next()
		if !some {
			return pairs, err
		}
		pairs = append(pairs, pair)
	}
}

// plainBlame goes by the words of 18.3 and 18.4; where nobody is to blame it tells all pairs.
func (a attempt) plainBlame(t *testing.T, s *store.Store) (blame api.Verdict, pairs []api.Pair, blamed bool) {
	t.Helper()
	by := func(report api.Report, why api.Errno) api.Verdict {
		return api.Verdict{Kind: api.ReduceBlame, Map: report.Task, Attempt: report.Attempt, Why: why}
	}
	var readers []*spill.Reader
	for _, report := range a.spills {
		r, err := spill.Open(s, report.Name, report.Length)
		if err != api.OK {
			return by(report, err), nil, true
		}
		if r.Parts() != a.job.Parts {
			return by(report, api.ErrCorrupt), nil, true
		}
		readers = append(readers, r)
	}
	for i, r := range readers {
		list, err := scanned(t, r, a.task)
		if err != api.OK {
			return by(a.spills[i], err), nil, true
		}
		pairs = append(pairs, list...)
	}
	return api.Verdict{}, pairs, false
}

// plainRun goes by the words of 18.2 to 18.6.
func (a attempt) plainRun(t *testing.T, s *store.Store) (api.Verdict, api.Errno) {
	t.Helper()
	if err := a.plainRefusal(s); err != api.OK {
		return api.Verdict{}, err
	}
	blame, pairs, blamed := a.plainBlame(t, s)
	if blamed {
		return blame, api.OK
	}
	if err := s.Create(a.name()); err != api.OK {
		return api.Verdict{}, err
	}
	if a.stops {
		isError(t, "StopAt", s.StopAt(a.name(), a.at), api.OK)
	}
	text, count := plainPart(a.job.Kind, pairs)
	err := s.Append(a.name(), []byte(text))
	if err == api.OK {
		err = s.Publish(a.name())
	}
	switch err {
	case api.OK:
		return a.done(int64(len(text)), count), api.OK
	case api.ErrStopped:
		return api.Verdict{Kind: api.ReduceStopped}, api.OK
	}
	return api.Verdict{}, err
}

// done is the verdict of an attempt that has ended well.
func (a attempt) done(length, lines int64) api.Verdict {
	return api.Verdict{Kind: api.ReduceDone, Report: api.Report{Task: a.task, Attempt: a.number, Name: a.name(), Length: length, Records: lines}}
}

// copyOf tells a store with the same blobs: published ones with their bytes, open ones as they look.
func copyOf(t *testing.T, s *store.Store) *store.Store {
	t.Helper()
	twin := store.New()
	for _, b := range s.List("") {
		isError(t, "Create", twin.Create(b.Name), api.OK)
		if b.State == api.BlobOut {
			isError(t, "Append", twin.Append(b.Name, bytesOf(t, s, b.Name)), api.OK)
			isError(t, "Publish", twin.Publish(b.Name), api.OK)
			continue
		}
		isError(t, "Append", twin.Append(b.Name, make([]byte, b.Size)), api.OK)
	}
	return twin
}

// same runs an attempt in a store, and by the document's words in its twin, and holds all against one another.
func (a attempt) same(t *testing.T, s *store.Store) (api.Verdict, api.Errno) {
	t.Helper()
	if s == nil {
		verdict, err := a.run(nil)
		isVerdict(t, a.String(), verdict, err, api.Verdict{}, api.ErrNil)
		return verdict, err
	}
	twin := copyOf(t, s)
	verdict, err := a.run(s)
	want, wantErr := a.plainRun(t, twin)
	isVerdict(t, a.String(), verdict, err, want, wantErr)
	isSame(t, "blobs behind "+a.String(), s.List(""), twin.List(""))
	for _, b := range s.List("") {
		if b.State == api.BlobOut {
			isSame(t, b.Name, bytesOf(t, s, b.Name), bytesOf(t, twin, b.Name))
		}
	}
	return verdict, err
}

// writes asks for an attempt that works, and whose part has just these bytes, and so many lines.
func (a attempt) writes(t *testing.T, s *store.Store, want string, lines int64) {
	t.Helper()
	before := s.List("")
	verdict, err := a.run(s)
	isVerdict(t, a.String(), verdict, err, a.done(int64(len(want)), lines), api.OK)
	isSame(t, "the part of "+a.String(), bytesOf(t, s, a.name()), []byte(want))
	isSame(t, "blobs", s.List(""), with(before, api.BlobInfo{Name: a.name(), State: api.BlobOut, Size: len(want)}))
}

// writesPlain asks for an attempt whose part is what the document says of the sheets.
func (a attempt) writesPlain(t *testing.T, s *store.Store, sheets []sheet) {
	t.Helper()
	want, lines := plainPart(a.job.Kind, pairsOf(sheets, a.task))
	a.writes(t, s, want, lines)
}

// with tells a list of blobs with one more, in order.
func with(list []api.BlobInfo, more api.BlobInfo) []api.BlobInfo {
	list = append(slices.Clone(list), more)
	slices.SortFunc(list, func(a, b api.BlobInfo) int { return strings.Compare(a.Name, b.Name) })
	return list
}

// refuses asks for an error, a store that stays as it was, and no readings.
func (a attempt) refuses(t *testing.T, s *store.Store, want api.Errno) {
	t.Helper()
	before, meter := s.List(""), s.Meter()
	verdict, err := a.run(s)
	isVerdict(t, a.String(), verdict, err, api.Verdict{}, want)
	isSame(t, "blobs behind a refusal", s.List(""), before)
	if s.Meter() != meter {
		t.Fatalf("%s: it has read: %+v, and not %+v", a, s.Meter(), meter)
	}
}

// blames asks for a blame, and a store that stays as it was.
func (a attempt) blames(t *testing.T, s *store.Store, place int, why api.Errno) {
	t.Helper()
	before := s.List("")
	verdict, err := a.run(s)
	want := api.Verdict{Kind: api.ReduceBlame, Map: place, Attempt: a.spills[place].Attempt, Why: why}
	isVerdict(t, a.String(), verdict, err, want, api.OK)
	isSame(t, "blobs behind a blame", s.List(""), before)
}

// leave leaves a blob behind.
func leave(t *testing.T, s *store.Store, name string, out bool) {
	t.Helper()
	isError(t, "Create of "+name, s.Create(name), api.OK)
	isError(t, "Append", s.Append(name, []byte("left "+name)), api.OK)
	if out {
		isError(t, "Publish", s.Publish(name), api.OK)
	}
}

func bytesOf(t *testing.T, s *store.Store, name string) []byte {
	t.Helper()
	b, err := s.Read(name, 0, api.MaxBlob)
	isError(t, "Read of "+name, err, api.OK)
	return b
}

// String tells an attempt in few words: its reports may be many.
func (a attempt) String() string {
	return fmt.Sprintf("%.60s of %+v, over %d spills %+v, stop %d, %v", a.name(), a.job, len(a.spills), a.spills[:min(len(a.spills), 4)], a.at, a.stops)
}

// written tells a value's beginning as Go writes it, so that each byte is seen.
func written(value any) string {
	return fmt.Sprintf("%.400s", fmt.Sprintf("%#v", value))
}

func isError(t *testing.T, what string, got, want api.Errno) {
	t.Helper()
	if got != want {
		t.Fatalf("%.400s: error %d, and not %d", what, got, want)
	}
}

func isVerdict(t *testing.T, what string, got api.Verdict, err api.Errno, want api.Verdict, wantErr api.Errno) {
	t.Helper()
	if got != want || err != wantErr {
		t.Fatalf("%.600s: %+v, %d, and not %+v, %d", what, got, err, want, wantErr)
	}
}

func isSame[T comparable](t *testing.T, what string, got, want []T) {
	t.Helper()
	if slices.Equal(got, want) {
		return
	}
	i := 0
	for i < min(len(got), len(want)) && got[i] == want[i] {
		i++
	}
	t.Fatalf("%.400s: %d, and not %d; from number %d on %s, and not %s", what, len(got), len(want), i, written(got[i:]), written(want[i:]))
}

// randomText tells some bytes of few kinds.
func randomText(random *rand.Rand, of string, most int) string {
	b := make([]byte, random.Intn(most+1))
	for i := range b {
		b[i] = of[random.Intn(len(of))]
	}
	return string(b)
}

// randomRecord tells a record: mostly with a short key, so that keys are alike, and a number; now and then a long one, or one of any bytes.
func randomRecord(random *rand.Rand, parts int) api.Record {
	r := rec(random.Intn(min(parts, 9)), randomText(random, "ab", 3), fmt.Sprint(random.Intn(30)-5))
	switch random.Intn(20) {
	case 0:
		r.Key = strings.Repeat("k", 1020+random.Intn(5))
	case 1:
		r.Value = strings.Repeat("7", 1020+random.Intn(5))
	case 2:
		b := make([]byte, random.Intn(9))
		random.Read(b)
		r.Key = string(b)
	case 3:
		r.Value = randomText(random, "\n\t\x00\xffv", 9)
	case 4:
		r.Value = fmt.Sprint(int64(random.Uint64()))
	case 5:
		r.Part = parts - 1
	}
	return r
}

// randomShape tells a shape that may be.
func randomShape(random *rand.Rand) api.Shape {
	return api.Shape{Block: []int{64, 100, 4096, 65536}[random.Intn(4)], Restart: 1 + random.Intn(64), Bits: random.Intn(17)}
}

// randomSheets tells so many sheets, each with a shape of its own.
func randomSheets(random *rand.Rand, count, parts int) []sheet {
	var sheets []sheet
	for range count {
		h := sheet{parts: parts, shape: randomShape(random)}
		for range random.Intn(1 << random.Intn(6)) {
			h.records = append(h.records, randomRecord(random, parts))
		}
		slices.SortStableFunc(h.records, func(a, b api.Record) int {
			if a.Part != b.Part {
				return a.Part - b.Part
			}
			return strings.Compare(a.Key, b.Key)
		})
		sheets = append(sheets, h)
	}
	return sheets
}

// randomAttempt tells a store with spills, and an attempt over them.
func randomAttempt(t *testing.T, random *rand.Rand) (*store.Store, attempt, []sheet) {
	t.Helper()
	parts := []int{1, 2, 3, 7, 65535}[random.Intn(5)]
	sheets := randomSheets(random, random.Intn(6), parts)
	s := store.New()
	a := attempt{
		out:    []string{"o", "wc", "a-long-name1"}[random.Intn(3)],
		job:    api.Job{Kind: random.Intn(5), Parts: parts},
		task:   random.Intn(min(parts, 4)),
		number: []int{1, 2, 17, 9999}[random.Intn(4)],
		spills: layAll(t, s, sheets),
	}
	if random.Intn(6) == 0 {
		a.task = parts - 1
	}
	return s, a, sheets
}
