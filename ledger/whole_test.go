package ledger

import (
	"fmt"
	"math/rand"
	"slices"
	"testing"

	"winnow/api"
)

// The chapter's examples, P4, P5, and what follows

// book is a book that goes on from call to call, as the examples do.
type book struct {
	t *testing.T
	b api.Book
}

func newBook(t *testing.T, maps, reduces, tries int) *book {
	t.Helper()
	b, err := New(maps, reduces, tries)
	isError(t, "New", err, api.OK)
	return &book{t, b}
}

func (k *book) begin(id api.TaskId, attempt int, isNew bool) {
	k.t.Helper()
	k.b = begins(k.t, k.b, id, attempt, isNew)
}

func (k *book) done(id api.TaskId) {
	k.t.Helper()
	k.b = taken(k.t, fmt.Sprint("Done ", id), ended(k.b, id, false))
}

func (k *book) died(id api.TaskId) {
	k.t.Helper()
	k.b = taken(k.t, fmt.Sprint("Died ", id), ended(k.b, id, true))
}

func (k *book) blame(reduce, task, attempt int, charged bool) {
	k.t.Helper()
	got := blames(k.b, reduce, task, attempt)
	k.b = taken(k.t, "Blame", got)
	if got.is != charged {
		k.t.Fatalf("Blame %d %d %d: %v", reduce, task, attempt, got.is)
	}
}

func (k *book) has(id api.TaskId, want api.TaskState) {
	k.t.Helper()
	if got := *plainTask(&k.b, id); got != want {
		k.t.Fatalf("%v is %+v, and not %+v", id, got, want)
	}
}

func (k *book) begun(attempts, charges int) {
	k.t.Helper()
	if a, c := Begun(k.b); a != attempts || c != charges {
		k.t.Fatalf("Begun: %d, %d, and not %d, %d", a, c, attempts, charges)
	}
}

// first goes through the first example up to the second attempt of map 1.
func first(t *testing.T) *book {
	k := newBook(t, 2, 1, 2)
	isReady(t, k.b, m(0), m(1))
	k.begin(m(1), 1, true)
	isReady(t, k.b, m(0))
	k.done(m(1))
	k.begin(m(0), 1, true)
	k.done(m(0))
	isReady(t, k.b, r(0))
	k.begin(r(0), 1, true)
	k.blame(0, 1, 1, true)
	k.has(r(0), api.TaskState{State: api.TaskHeld, Attempt: 1})
	k.has(m(1), api.TaskState{State: api.TaskReady, Attempt: 1, Charged: 1})
	isReady(t, k.b, m(1))
	k.begin(m(1), 2, true)
	return k
}

func TestExample1(t *testing.T) {
	k := first(t)
	k.done(m(1))
	isReady(t, k.b, r(0))
	k.begin(r(0), 1, false)
	if Over(k.b) {
		t.Fatal("over ahead of the end")
	}
	k.done(r(0))
	if !Over(k.b) {
		t.Fatal("not over")
	}
	isReady(t, k.b)
	k.begun(4, 1)
}

func TestExample2(t *testing.T) {
	k := first(t)
	k.died(m(1))
	k.has(m(1), api.TaskState{State: api.TaskReady, Attempt: 2, Charged: 2})
	isReady(t, k.b)
	if !k.b.Failed || !Over(k.b) {
		t.Fatal("not failed")
	}
	isRefused(t, "Begin", k.b, begun(k.b, m(1)), api.ErrState)
	k.begun(4, 2)
}

func TestExample3(t *testing.T) {
	b := bookOf(3, tasks(done(0), running(1)), tasks(running(0)))
	isAnswer(t, "Blame", b, blames(b, 0, 1, 1), answer{book: bookOf(3, tasks(done(0), running(1)), tasks(held(0)))})
	isRefused(t, "Blame", b, blames(b, 0, 1, 3), api.ErrArg)
	isRefused(t, "Blame", b, blames(b, 1, 0, 1), api.ErrTask)
}

func TestExample4(t *testing.T) {
	isReady(t, newBook(t, 0, 1, 1).b, r(0))
	for _, c := range [][3]int{{1, 0, 1}, {257, 1, 1}, {1, 1, 17}} {
		b, err := New(c[0], c[1], c[2])
		isError(t, fmt.Sprint("New", c), err, api.ErrArg)
		isBook(t, fmt.Sprint("New", c), b, api.Book{})
	}
}

func TestExample5(t *testing.T) {
	checks(t, bookOf(1, tasks(api.TaskState{Attempt: 1}), tasks(ready(0))), api.ErrBook)
	checks(t, failed(bookOf(1, nil, tasks(ready(0)))), api.ErrBook)
	checks(t, bookOf(1, tasks(api.TaskState{State: api.TaskHeld, Attempt: 1}), tasks(ready(0))), api.ErrBook)
}

// event is something that has been told of a task: b begun, w gone on with, d done, x died, h held, c charged by a blame.
type event struct {
	what byte
	id   api.TaskId
}

// history is a book that knows nothing but what has happened.
type history struct {
	maps, reduces, tries int
	events               []event
}

func (h *history) note(what byte, id api.TaskId) { h.events = append(h.events, event{what, id}) }

func (h *history) count(id api.TaskId, what string) int {
	count := 0
	for _, e := range h.events {
		if e.id == id && slices.Contains([]byte(what), e.what) {
			count++
		}
	}
	return count
}

// state tells a task's state by the last thing that has happened to it.
func (h *history) state(id api.TaskId) api.TaskState {
	s := api.TaskState{Attempt: h.count(id, "b"), Charged: h.count(id, "xc")}
	for _, e := range h.events {
		if e.id == id {
			s.State = map[byte]int{'b': 1, 'w': 1, 'd': 3, 'x': 0, 'h': 2, 'c': 0}[e.what]
		}
	}
	return s
}

func (h *history) book() api.Book {
	b := api.Book{Tries: h.tries}
	for i := range h.maps {
		s := h.state(m(i))
		b.Maps = append(b.Maps, s)
		b.Failed = b.Failed || s.Charged >= h.tries
	}
	for i := range h.reduces {
		s := h.state(r(i))
		b.Reduces = append(b.Reduces, s)
		b.Failed = b.Failed || s.Charged >= h.tries
	}
	return b
}

// follows holds a book behind a call against each sentence of 'What follows' that speaks of it.
func follows(t *testing.T, b api.Book) {
	t.Helper()
	isChecked(t, b, api.OK)
	attempts, charges := Begun(b)
	if attempts > len(b.Maps)+len(b.Reduces)+charges {
		t.Fatalf("of %s attempts are not paid for", written(b))
	}
	spent, runs := 0, 0
	for _, s := range slices.Concat(b.Maps, b.Reduces) {
		if s.Attempt > b.Tries {
			t.Fatalf("of %s a task has more attempts than Tries", written(b))
		}
		if s.Charged == b.Tries {
			spent++
		}
		if s.State == api.TaskRunning {
			runs++
		}
	}
	if b.Failed != (spent > 0) {
		t.Fatalf("%s has Failed without a task that has, or not with one", written(b))
	}
	if !Over(b) && runs == 0 && len(Ready(b)) == 0 {
		t.Fatalf("of %s nobody can go on", written(b))
	}
}

// leads holds a book against the one that a call has made of it.
func leads(t *testing.T, before, after api.Book, died, charged bool) {
	t.Helper()
	attemptsBefore, chargesBefore := Begun(before)
	attempts, charges := Begun(after)
	if before.Failed || attempts < attemptsBefore || attempts > attemptsBefore+1 {
		t.Fatalf("%s leads to %s", written(before), written(after))
	}
	if is := charges - chargesBefore; is != 0 && is != 1 || (is == 1) != (died || charged) {
		t.Fatalf("from %s to %s there are %d charges", written(before), written(after), is)
	}
	for i, s := range before.Reduces {
		if s.State == api.TaskDone && after.Reduces[i] != s {
			t.Fatalf("%s: reduce task %d was done, and is not any more", written(after), i)
		}
	}
	for i, s := range before.Maps {
		if s.State == api.TaskDone && after.Maps[i] != s && !(charged && after.Maps[i] == ready(s.Charged+1)) {
			t.Fatalf("%s: map task %d was done, and is not any more", written(after), i)
		}
	}
}

// run makes changes drawn at random, each held against the history, and tells the book at the end.
func (h *history) run(t *testing.T, random *rand.Rand, b api.Book, steps int) api.Book {
	paid := map[string]int{}
	for range steps {
		id := api.TaskId{Kind: random.Intn(2), Task: random.Intn(max(h.maps, h.reduces)+2) - 1}
		before, died, charged := copied(b), false, false
		var got answer
		switch draw := random.Intn(20); {
		case draw < 8:
			if list := Ready(b); len(list) > 0 && draw < 6 {
				id = list[random.Intn(len(list))]
			}
			got = begun(b, id)
			isAnswer(t, fmt.Sprint("Begin ", id), before, got, plainBegin(before, id))
			if got.err == api.OK {
				h.note(map[bool]byte{true: 'b', false: 'w'}[got.is], id)
			}
		case draw < 14:
			died = draw == 13
			got = ended(b, id, died)
			isAnswer(t, fmt.Sprint("the end of ", id), before, got, plainEnd(before, id, died))
			if got.err == api.OK && died {
				paid[fmt.Sprint(id, h.count(id, "b"))]++
				h.note('x', id)
			} else if got.err == api.OK {
				h.note('d', id)
			}
		default:
			task, attempt := random.Intn(h.maps+2)-1, random.Intn(h.tries+2)
			got = blames(b, id.Task, task, attempt)
			isAnswer(t, fmt.Sprint("Blame ", id.Task, task, attempt), before, got, plainBlame(before, id.Task, task, attempt))
			if charged = got.is; charged {
				paid[fmt.Sprint(m(task), attempt)]++
				h.note('c', m(task))
			}
			if got.err == api.OK {
				h.note('h', r(id.Task))
			}
		}
		isBook(t, "the book ahead of it", b, before)
		if got.err != api.OK {
			continue
		}
		b = got.book
		isBook(t, "the history", b, h.book())
		isTold(t, b)
		follows(t, b)
		leads(t, before, b, died, charged)
	}
	for attempt, count := range paid {
		if count > 1 {
			t.Fatalf("%s was charged %d times", attempt, count)
		}
	}
	return b
}

// Whole runs at random: some come to their end, some fail, and some are still under way.
func TestRunsAtRandom(t *testing.T) {
	random := rand.New(rand.NewSource(190))
	whole, broken, open := 0, 0, 0
	for range 1500 {
		h := &history{maps: random.Intn(4), reduces: 1 + random.Intn(3), tries: 1 + random.Intn(4)}
		if random.Intn(5) == 0 {
			h.tries = 16
		}
		b := h.run(t, random, newBook(t, h.maps, h.reduces, h.tries).b, 40+random.Intn(160))
		switch {
		case b.Failed:
			broken++
		case Over(b):
			whole++
		default:
			open++
		}
	}
	if whole < 100 || broken < 100 || open < 100 {
		t.Fatal("runs:", whole, broken, open)
	}
}

// reach shows each book that calls lead to, and tells how many there are.
func reach(t *testing.T, maps, reduces, tries int) int {
	start := newBook(t, maps, reduces, tries).b
	seen := map[string]int{fmt.Sprint(start): 1}
	left := []api.Book{start}
	for len(left) > 0 {
		b := left[0]
		left = left[1:]
		follows(t, b)
		isTold(t, b)
		visit := func(got answer, died, charged bool) {
			if got.err != api.OK {
				return
			}
			leads(t, b, got.book, died, charged)
			if key := fmt.Sprint(got.book); seen[key] == 0 {
				seen[key] = 1
				left = append(left, got.book)
			}
		}
		for _, id := range ids(upTo(max(maps, reduces))...) {
			visit(begun(b, id), false, false)
			visit(ended(b, id, false), false, false)
			visit(ended(b, id, true), true, false)
		}
		for reduce := range reduces {
			for task := range maps {
				for attempt := range tries + 2 {
					got := blames(b, reduce, task, attempt)
					visit(got, false, got.is)
				}
			}
		}
	}
	return len(seen)
}

// All that calls lead to from a new book of a few tasks.
func TestAllBooksThatAreReached(t *testing.T) {
	count := 0
	for _, c := range [][3]int{{0, 1, 1}, {0, 1, 3}, {0, 2, 2}, {1, 1, 1}, {1, 1, 3}, {2, 1, 2}, {1, 2, 2}, {2, 2, 1}, {2, 2, 2}, {3, 1, 2}} {
		count += reach(t, c[0], c[1], c[2])
	}
	if count < 1000 {
		t.Fatal(count, "books are reached")
	}
}

// Behind the last charge nothing changes any more, whoever is asked for.
func TestNothingChangesBehindTheEnd(t *testing.T) {
	count := 0
	for _, c := range [][3]int{{0, 2, 2}, {1, 1, 2}, {2, 1, 2}, {1, 2, 2}, {2, 2, 1}} {
		eachBook(c[0], c[1], c[2], func(b api.Book) {
			if !b.Failed {
				return
			}
			count++
			for _, id := range ids(upTo(2)...) {
				for _, got := range []answer{begun(b, id), ended(b, id, false), ended(b, id, true), blames(b, 0, id.Task, 1), blames(b, id.Task, 0, 1), blames(b, id.Task, 0, 2)} {
					if got.err == api.OK || !isEmpty(got.book) {
						t.Fatalf("%s has become %s", written(b), written(got))
					}
				}
			}
		})
	}
	if count < 100 {
		t.Fatal(count, "books")
	}
}

// through runs a job to its end, several tasks at one time, where no task has more charges than it may have, and holds the number of Begins against the last sentence of 'What follows'.
func through(t *testing.T, random *rand.Rand, maps, reduces, tries int) {
	k := newBook(t, maps, reduces, tries)
	var runs []api.TaskId
	may := map[api.TaskId]int{}
	for i := range max(maps, reduces) {
		may[m(i)], may[r(i)] = random.Intn(tries), random.Intn(tries)
	}
	most := random.Intn(40) // Blames that charge nobody
	starts, news, charges, readings := 0, 0, 0, 0
	for !Over(k.b) {
		if list := Ready(k.b); len(list) > 0 && (len(runs) == 0 || random.Intn(2) == 0) {
			id := list[random.Intn(len(list))]
			got := begun(k.b, id)
			k.b = taken(t, "Begin", got)
			runs = append(runs, id)
			starts++
			if got.is {
				news++
			}
			continue
		}
		if len(runs) == 0 {
			t.Fatalf("of %s nobody can go on", written(k.b))
		}
		place := random.Intn(len(runs))
		id := runs[place]
		runs = slices.Delete(runs, place, place+1)
		if may[id] > 0 && random.Intn(2) == 0 {
			may[id]--
			charges++
			k.died(id)
			continue
		}
		if id.Kind == api.TaskReduce && maps > 0 && random.Intn(3) > 0 {
			task := random.Intn(maps)
			s := k.b.Maps[task]
			charged := s.State == api.TaskDone && may[m(task)] > 0
			attempt := s.Attempt
			if !charged && s.State == api.TaskDone {
				attempt--
			}
			if attempt > 0 && (charged || most > 0) {
				k.blame(id.Task, task, attempt, charged)
				readings++
				if charged {
					may[m(task)]--
					charges++
				} else {
					most--
				}
				continue
			}
		}
		k.done(id)
	}
	if k.b.Failed || !plainAllDone(k.b.Reduces) {
		t.Fatalf("the end is %s", written(k.b))
	}
	k.begun(news, charges)
	if starts > maps+reduces+charges+readings || news > maps+reduces+charges {
		t.Fatalf("%d Begins, %d of them new, of %d tasks, %d charges, %d Blames", starts, news, maps+reduces, charges, readings)
	}
}

func TestEverybodyComesToAnEnd(t *testing.T) {
	random := rand.New(rand.NewSource(1900))
	for range 3000 {
		through(t, random, random.Intn(6), 1+random.Intn(6), 1+random.Intn(5))
	}
	for range 20 {
		through(t, random, random.Intn(257), 1+random.Intn(300), 1+random.Intn(16))
	}
	through(t, random, 256, 500, 16)
}

// one runs a job one task after the other, with faults that name tasks, as a driver does, and tells how many attempts there were, and whether the job has failed.
func one(t *testing.T, random *rand.Rand, maps, reduces, tries int, named map[api.TaskId]int) (int, bool) {
	k := newBook(t, maps, reduces, tries)
	steps := 0
	for !Over(k.b) {
		if steps++; steps > 5000 {
			t.Fatalf("no end: %s", written(k.b))
		}
		list := Ready(k.b)
		id := list[random.Intn(len(list))]
		k.b = taken(t, "Begin", begun(k.b, id))
		if id.Kind == api.TaskReduce {
			task := random.Intn(maps + 1)
			if named[m(task)] > 0 && random.Intn(2) == 0 {
				named[m(task)]--
				k.blame(id.Task, task, k.b.Maps[task].Attempt, true)
				continue
			}
		}
		if named[id] > 0 && random.Intn(2) == 0 {
			named[id]--
			k.died(id)
			continue
		}
		k.done(id)
	}
	attempts, _ := Begun(k.b)
	return attempts, k.b.Failed
}

// P4, P5: each job ends; where no task is named by as many faults as Tries, all is done; attempts are at most the tasks and the faults.
func TestJobsWithFaults(t *testing.T) {
	random := rand.New(rand.NewSource(1905))
	broken := 0
	for range 5000 {
		maps, reduces, tries := random.Intn(5), 1+random.Intn(4), 1+random.Intn(4)
		named := map[api.TaskId]int{}
		faults, most := 0, 0
		for range random.Intn(12) {
			id := m(random.Intn(maps + 1))
			if id.Task == maps || random.Intn(2) == 0 {
				id = r(random.Intn(reduces))
			}
			named[id]++
			faults++
			most = max(most, named[id])
		}
		attempts, hasFailed := one(t, random, maps, reduces, tries, named)
		if attempts > maps+reduces+faults {
			t.Fatalf("%d attempts of %d tasks and %d faults", attempts, maps+reduces, faults)
		}
		if hasFailed && most < tries {
			t.Fatalf("failed with %d faults a task at most, and %d tries", most, tries)
		}
		if hasFailed {
			broken++
		}
	}
	if broken < 500 || broken > 4500 {
		t.Fatal(broken, "of 5000 have failed")
	}
}
