package ledger

import (
	"fmt"
	"math/rand"
	"testing"

	"winnow/api"
)

// 19.6

func begins(t *testing.T, b api.Book, id api.TaskId, attempt int, isNew bool) api.Book {
	t.Helper()
	got := begun(b, id)
	if got.err != api.OK || got.attempt != attempt || got.is != isNew {
		t.Fatalf("Begin %v of %s: %s", id, written(b), written(got))
	}
	isAnswer(t, fmt.Sprint("Begin ", id), b, got, plainBegin(b, id))
	return got.book
}

func isRefused(t *testing.T, what string, b api.Book, got answer, want api.Errno) {
	t.Helper()
	isAnswer(t, what, b, got, refused(want))
}

func TestBeginByHand(t *testing.T) {
	b := bookOf(3, tasks(ready(0), ready(2), done(1)), tasks(ready(0), held(1)))
	isBook(t, "map 0", begins(t, b, m(0), 1, true), bookOf(3, tasks(running(0), ready(2), done(1)), b.Reduces))
	isBook(t, "map 1", begins(t, b, m(1), 3, true), bookOf(3, tasks(ready(0), running(2), done(1)), b.Reduces))
	b = bookOf(3, tasks(done(2)), tasks(ready(0), held(0), ready(2), held(2), done(0)))
	isBook(t, "reduce 0", begins(t, b, r(0), 1, true), bookOf(3, b.Maps, tasks(running(0), held(0), ready(2), held(2), done(0))))
	isBook(t, "reduce 1", begins(t, b, r(1), 1, false), bookOf(3, b.Maps, tasks(ready(0), running(0), ready(2), held(2), done(0))))
	isBook(t, "reduce 2", begins(t, b, r(2), 3, true), bookOf(3, b.Maps, tasks(ready(0), held(0), running(2), held(2), done(0))))
	isBook(t, "reduce 3", begins(t, b, r(3), 3, false), bookOf(3, b.Maps, tasks(ready(0), held(0), ready(2), running(2), done(0))))
}

func TestBeginOfWhatIsNotReady(t *testing.T) {
	for _, s := range []api.TaskState{running(0), running(1), done(0), done(2)} {
		b := bookOf(3, tasks(ready(0), s), tasks(ready(0)))
		isRefused(t, "Begin of a map task", b, begun(b, m(1)), api.ErrState)
		b = bookOf(3, tasks(done(0)), tasks(ready(0), s))
		isRefused(t, "Begin of a reduce task", b, begun(b, r(1)), api.ErrState)
	}
}

// No reduce task is begun, or gone on with, as long as some map task is not done.
func TestBeginTooEarly(t *testing.T) {
	for place := range 4 {
		for _, s := range []api.TaskState{ready(0), ready(1), running(0), running(2)} {
			maps := tasks(done(0), done(1), done(0), done(2))
			maps[place] = s
			b := bookOf(3, maps, tasks(ready(0), held(0), ready(1), held(2)))
			for task := range b.Reduces {
				isRefused(t, "Begin of a reduce task", b, begun(b, r(task)), api.ErrState)
			}
			maps[place] = done(1)
			begins(t, b, r(0), 1, true)
			begins(t, b, r(3), 3, false)
		}
	}
}

func TestBeginBehindTheEnd(t *testing.T) {
	b := failed(bookOf(3, tasks(ready(3), ready(0), ready(1)), tasks(ready(0), held(1))))
	for _, id := range []api.TaskId{m(0), m(1), m(2), r(0), r(1)} {
		isRefused(t, "Begin", b, begun(b, id), api.ErrState)
	}
	b = failed(bookOf(3, tasks(done(0)), tasks(ready(0), held(1), ready(3))))
	for _, id := range []api.TaskId{m(0), r(0), r(1), r(2)} {
		isRefused(t, "Begin", b, begun(b, id), api.ErrState)
	}
	// All reduce tasks are done, but a map task may be begun still.
	b = bookOf(3, tasks(ready(1)), tasks(done(0)))
	begins(t, b, m(0), 2, true)
}

// A task's attempts go on behind its charges, up to the last one that Tries lets it have.
func TestBeginOfEachAttempt(t *testing.T) {
	for charged := range api.MaxTries {
		b := bookOf(api.MaxTries, tasks(ready(charged)), tasks(ready(0)))
		isBook(t, "a map task", begins(t, b, m(0), charged+1, true), bookOf(api.MaxTries, tasks(running(charged)), tasks(ready(0))))
		b = bookOf(api.MaxTries, nil, tasks(ready(charged)))
		isBook(t, "a reduce task", begins(t, b, r(0), charged+1, true), bookOf(api.MaxTries, nil, tasks(running(charged))))
		b = bookOf(api.MaxTries, nil, tasks(held(charged)))
		isBook(t, "a held task", begins(t, b, r(0), charged+1, false), bookOf(api.MaxTries, nil, tasks(running(charged))))
	}
}

// 19.7, 19.8

func TestDoneByHand(t *testing.T) {
	b := bookOf(3, tasks(running(0), running(2), ready(0)), tasks(running(1), running(0)))
	for _, c := range []struct {
		id   api.TaskId
		want api.Book
	}{
		{m(0), bookOf(3, tasks(done(0), running(2), ready(0)), b.Reduces)},
		{m(1), bookOf(3, tasks(running(0), done(2), ready(0)), b.Reduces)},
		{r(0), bookOf(3, b.Maps, tasks(done(1), running(0)))},
		{r(1), bookOf(3, b.Maps, tasks(running(1), done(0)))},
	} {
		isAnswer(t, fmt.Sprint("Done ", c.id), b, ended(b, c.id, false), answer{book: c.want})
	}
}

func TestDiedByHand(t *testing.T) {
	b := bookOf(3, tasks(running(0), running(2), ready(0)), tasks(running(1), running(2)))
	for _, c := range []struct {
		id   api.TaskId
		want api.Book
	}{
		{m(0), bookOf(3, tasks(ready(1), running(2), ready(0)), b.Reduces)},
		{m(1), failed(bookOf(3, tasks(running(0), ready(3), ready(0)), b.Reduces))},
		{r(0), bookOf(3, b.Maps, tasks(ready(2), running(2)))},
		{r(1), failed(bookOf(3, b.Maps, tasks(running(1), ready(3))))},
	} {
		isAnswer(t, fmt.Sprint("Died ", c.id), b, ended(b, c.id, true), answer{book: c.want})
	}
}

func TestOnlyWhatRunsEnds(t *testing.T) {
	for _, died := range []bool{false, true} {
		for _, s := range []api.TaskState{ready(0), ready(1), done(0), done(2)} {
			b := bookOf(3, tasks(running(0), s), tasks(running(0)))
			isRefused(t, "a map task's end", b, ended(b, m(1), died), api.ErrState)
		}
		for _, s := range []api.TaskState{ready(0), ready(1), held(0), held(2), done(0), done(2)} {
			b := bookOf(3, tasks(running(0)), tasks(running(0), s))
			isRefused(t, "a reduce task's end", b, ended(b, r(1), died), api.ErrState)
		}
		b := failed(bookOf(3, tasks(running(0), ready(3), done(0)), tasks(running(1), held(0))))
		for _, id := range []api.TaskId{m(0), m(1), m(2), r(0), r(1)} {
			isRefused(t, "an end behind the end", b, ended(b, id, died), api.ErrState)
		}
	}
}

// The last charge fails the job, and none ahead of it.
func TestDiedOfEachCharge(t *testing.T) {
	for tries := 1; tries <= api.MaxTries; tries++ {
		for charged := range tries {
			for _, id := range []api.TaskId{m(1), r(1)} {
				b := bookOf(tries, tasks(ready(0), running(charged)), tasks(ready(0), running(charged)))
				want := copied(b)
				*plainTask(&want, id) = ready(charged + 1)
				want.Failed = charged+1 == tries
				got := ended(b, id, true)
				isAnswer(t, fmt.Sprint("Died ", id), b, got, answer{book: want})
				checks(t, got.book, api.OK)
				if got.book.Failed != Over(got.book) || got.book.Failed && len(Ready(got.book)) > 0 {
					t.Fatalf("behind the last charge: %s", written(got.book))
				}
			}
		}
	}
}

// Tasks that there are not, by kinds and numbers.
func TestTasksThatThereAreNot(t *testing.T) {
	books := []api.Book{
		bookOf(3, tasks(running(0), ready(0)), tasks(running(1), ready(0), held(0))),
		bookOf(3, nil, tasks(running(1))),
		failed(bookOf(3, tasks(ready(3)), tasks(running(1), ready(0)))),
	}
	for _, b := range books {
		for _, kind := range ints() {
			for _, task := range ints() {
				id := api.TaskId{Kind: kind, Task: task}
				if kind == api.TaskMap && task >= 0 && task < len(b.Maps) || kind == api.TaskReduce && task >= 0 && task < len(b.Reduces) {
					continue
				}
				what := "of " + written(id)
				isRefused(t, "Begin "+what, b, begun(b, id), api.ErrTask)
				isRefused(t, "Done "+what, b, ended(b, id, false), api.ErrTask)
				isRefused(t, "Died "+what, b, ended(b, id, true), api.ErrTask)
			}
		}
	}
}

// The first and the last of as many tasks as may be.
func TestStepsOfManyTasks(t *testing.T) {
	b, err := New(api.MaxTasks, api.MaxParts, 2)
	isError(t, "New", err, api.OK)
	for task := range b.Maps {
		b.Maps[task] = done(0)
	}
	for _, id := range []api.TaskId{r(0), r(1), r(32768), r(65533), r(65534)} {
		b = begins(t, b, id, 1, true)
		died := taken(t, "Died", ended(b, id, true))
		isAnswer(t, "Died", b, ended(b, id, true), plainEnd(b, id, true))
		b = begins(t, died, id, 2, true)
		b = taken(t, "Done", ended(b, id, false))
	}
	for _, id := range []api.TaskId{m(-1), m(256), m(65534), r(-1), r(65535), r(65536)} {
		isRefused(t, "Begin", b, begun(b, id), api.ErrTask)
		isRefused(t, "Done", b, ended(b, id, false), api.ErrTask)
		isRefused(t, "Died", b, ended(b, id, true), api.ErrTask)
	}
	isTold(t, b)
	b.Maps[0], b.Maps[255] = ready(1), ready(0)
	isReady(t, b, m(0), m(255))
	b = begins(t, b, m(255), 1, true)
	b = begins(t, b, m(0), 2, true)
	isReady(t, b)
	b = taken(t, "Died", ended(b, m(0), true))
	if !b.Failed || !Over(b) {
		t.Fatal("behind the last charge")
	}
}

// Each book of a few tasks, and each change of it.
func TestEachSmallBookIsChanged(t *testing.T) {
	count := 0
	for _, c := range [][3]int{{0, 1, 2}, {0, 2, 2}, {1, 1, 3}, {2, 1, 1}, {1, 2, 2}, {2, 1, 2}, {3, 1, 1}, {2, 2, 1}} {
		most := max(c[0], c[1])
		eachBook(c[0], c[1], c[2], func(b api.Book) {
			isChanged(t, b, ids(upTo(most)...), upTo(most), upTo(c[2]+2))
			count++
		})
	}
	if count < 1000 {
		t.Fatal(count, "books")
	}
}

// Books that may not be are refused by each change, ahead of all else.
func TestWrongBooksAreNotChanged(t *testing.T) {
	random := rand.New(rand.NewSource(196))
	for range 3000 {
		b := randomBook(random, random.Intn(4), 1+random.Intn(4), 1+random.Intn(3))
		switch random.Intn(4) {
		case 0:
			b.Failed = !b.Failed
		case 1:
			b.Reduces[random.Intn(len(b.Reduces))].Attempt++
		case 2:
			b.Reduces[random.Intn(len(b.Reduces))].State = 4
		default:
			b.Tries = 0
		}
		if plainCheck(b) == api.OK {
			t.Fatalf("%s may be", written(b))
		}
		for _, id := range ids(upTo(4)...) {
			isRefused(t, "Begin", b, begun(b, id), api.ErrBook)
			isRefused(t, "Done", b, ended(b, id, false), api.ErrBook)
			isRefused(t, "Died", b, ended(b, id, true), api.ErrBook)
			isRefused(t, "Blame", b, blames(b, id.Kind, id.Task, random.Intn(5)-1), api.ErrBook)
		}
	}
	for _, b := range []api.Book{{}, {Failed: true}, bookOf(1, tasks(ready(0)), nil), bookOf(1, make([]api.TaskState, 257), tasks(ready(0))), bookOf(1, nil, make([]api.TaskState, 65536))} {
		isChanged(t, b, ids(upTo(2)...), upTo(2), upTo(2))
		isRefused(t, "Begin", b, begun(b, r(0)), api.ErrBook)
	}
}
