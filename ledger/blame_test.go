package ledger

import (
	"fmt"
	"testing"

	"winnow/api"
)

// 19.9

func TestBlameByHand(t *testing.T) {
	for _, c := range []struct {
		s       api.TaskState
		attempt int
		charged bool
	}{
		// Done: its last attempt alone is charged.
		{done(0), 1, true},
		{done(1), 2, true},
		{done(1), 1, false},
		{done(3), 4, true},
		{done(3), 3, false},
		{done(3), 1, false},
		// To be made again, or being made again: nobody is charged any more.
		{ready(1), 1, false},
		{ready(3), 3, false},
		{ready(3), 2, false},
		{running(0), 1, false},
		{running(1), 1, false},
		{running(1), 2, false},
		{running(3), 4, false},
		{running(3), 1, false},
	} {
		b := bookOf(5, tasks(ready(0), c.s, done(0)), tasks(held(2), running(1), running(2)))
		want := copied(b)
		want.Reduces[1] = held(1)
		if c.charged {
			want.Maps[1] = ready(c.s.Charged + 1)
		}
		isAnswer(t, fmt.Sprint("Blame ", c.attempt), b, blames(b, 1, 1, c.attempt), answer{book: want, is: c.charged})
	}
}

func TestBlameOfAttemptsThatThereAreNot(t *testing.T) {
	for _, s := range []api.TaskState{ready(0), ready(1), ready(4), running(0), running(2), done(0), done(4)} {
		b := bookOf(5, tasks(s), tasks(running(0)))
		for _, attempt := range ints() {
			if attempt < 1 || attempt > s.Attempt {
				isRefused(t, fmt.Sprint("Blame ", attempt), b, blames(b, 0, 0, attempt), api.ErrArg)
			} else if got := blames(b, 0, 0, attempt); got.err != api.OK {
				t.Fatalf("Blame %d of %s: %s", attempt, written(b), written(got))
			}
		}
	}
}

func TestBlameByWhatDoesNotRun(t *testing.T) {
	for _, s := range []api.TaskState{ready(0), ready(1), held(0), held(2), done(0), done(2)} {
		for _, blamed := range []api.TaskState{done(0), done(2), running(1), ready(1)} {
			b := bookOf(3, tasks(blamed), tasks(running(0), s))
			isRefused(t, "Blame", b, blames(b, 1, 0, blamed.Attempt), api.ErrState)
			isRefused(t, "Blame", b, blames(b, 1, 0, 1), api.ErrState)
		}
	}
	b := failed(bookOf(3, tasks(done(0), ready(3)), tasks(running(0), ready(0))))
	for reduce := range 2 {
		isRefused(t, "Blame behind the end", b, blames(b, reduce, 0, 1), api.ErrState)
		isRefused(t, "Blame behind the end", b, blames(b, reduce, 1, 3), api.ErrState)
	}
}

// The last charge fails the job, and none ahead of it.
func TestBlameOfEachCharge(t *testing.T) {
	for tries := 1; tries <= api.MaxTries; tries++ {
		for charged := range tries {
			b := bookOf(tries, tasks(done(0), done(charged)), tasks(ready(0), running(tries-1)))
			want := bookOf(tries, tasks(done(0), ready(charged+1)), tasks(ready(0), held(tries-1)))
			want.Failed = charged+1 == tries
			got := blames(b, 1, 1, charged+1)
			isAnswer(t, "Blame", b, got, answer{book: want, is: true})
			checks(t, got.book, api.OK)
			for attempt := 1; attempt <= charged; attempt++ {
				want := bookOf(tries, b.Maps, tasks(ready(0), held(tries-1)))
				isAnswer(t, "Blame", b, blames(b, 1, 1, attempt), answer{book: want})
			}
		}
	}
}

// Several reduce tasks find one spill damaged: the first one that says so has its attempt charged, once.
func TestBlameByMany(t *testing.T) {
	b := bookOf(3, tasks(done(0), done(0)), tasks(running(0), running(0), running(0), running(0)))
	b = taken(t, "the first Blame", blames(b, 2, 1, 1))
	isBook(t, "behind the first", b, bookOf(3, tasks(done(0), ready(1)), tasks(running(0), running(0), held(0), running(0))))
	isReady(t, b, m(1))
	isAnswer(t, "the second Blame", b, blames(b, 0, 1, 1), answer{book: bookOf(3, tasks(done(0), ready(1)), tasks(held(0), running(0), held(0), running(0)))})
	b = taken(t, "the second Blame", blames(b, 0, 1, 1))
	b = begins(t, b, m(1), 2, true)
	isAnswer(t, "the third Blame", b, blames(b, 1, 1, 1), answer{book: bookOf(3, tasks(done(0), running(1)), tasks(held(0), held(0), held(0), running(0)))})
	b = taken(t, "the third Blame", blames(b, 1, 1, 1))
	b = taken(t, "Done", ended(b, m(1), false))
	isAnswer(t, "the fourth Blame", b, blames(b, 3, 1, 1), answer{book: bookOf(3, tasks(done(0), done(1)), tasks(held(0), held(0), held(0), held(0)))})
	b = taken(t, "the fourth Blame", blames(b, 3, 1, 1))
	isReady(t, b, r(0), r(1), r(2), r(3))
	b = begins(t, b, r(3), 1, false)
	isAnswer(t, "a Blame of the new attempt", b, blames(b, 3, 1, 2), answer{book: bookOf(3, tasks(done(0), ready(2)), tasks(held(0), held(0), held(0), held(0))), is: true})
}

// Tasks that there are not: of the reduce task, of the map task, of both.
func TestBlameOfTasksThatThereAreNot(t *testing.T) {
	for _, b := range []api.Book{
		bookOf(3, tasks(done(0), running(1)), tasks(running(0), ready(0), held(0))),
		bookOf(3, nil, tasks(running(1), ready(0))),
		failed(bookOf(3, tasks(done(0), ready(3)), tasks(running(0)))),
	} {
		for _, reduce := range ints() {
			for _, task := range ints() {
				if reduce >= 0 && reduce < len(b.Reduces) && task >= 0 && task < len(b.Maps) {
					continue
				}
				for _, attempt := range []int{-1, 0, 1, 2, 99} {
					isRefused(t, fmt.Sprint("Blame ", reduce, task, attempt), b, blames(b, reduce, task, attempt), api.ErrTask)
				}
			}
		}
	}
}

// Each wrong thing is told ahead of each later one.
func TestBlameErrorsInOrder(t *testing.T) {
	for wrong := range 1 << 6 {
		is := func(bit int) bool { return wrong>>bit&1 == 1 }
		b := bookOf(3, tasks(done(0), ready(0)), tasks(running(0), ready(0)))
		reduce, task, attempt := 0, 0, 1
		want := api.OK
		if is(5) { // the reduce task does not run
			reduce, want = 1, api.ErrState
		}
		if is(4) { // the book has Failed
			b, want = failed(b), api.ErrState
			b.Maps[1] = ready(3)
		}
		if is(3) { // there was no such attempt
			attempt, want = 2, api.ErrArg
		}
		if is(2) { // there is no such map task
			task, want = 2, api.ErrTask
		}
		if is(1) { // there is no such reduce task
			reduce, want = 2, api.ErrTask
		}
		if is(0) { // the book may not be
			b.Tries, want = 17, api.ErrBook
		}
		got := blames(b, reduce, task, attempt)
		isError(t, fmt.Sprint("Blame ", wrong), got.err, want)
		isAnswer(t, fmt.Sprint("Blame ", wrong), b, got, plainBlame(b, reduce, task, attempt))
	}
}

// The same of the other changes.
func TestErrorsInOrder(t *testing.T) {
	for wrong := range 1 << 4 {
		is := func(bit int) bool { return wrong>>bit&1 == 1 }
		b := bookOf(3, tasks(ready(0), running(0)), tasks(ready(0)))
		begin, end := 0, 1
		want := api.OK
		if is(3) { // another state
			begin, end, want = 1, 0, api.ErrState
		}
		if is(2) { // the book has Failed
			b, want = failed(b), api.ErrState
			b.Reduces[0] = ready(3)
		}
		if is(1) { // there is no such task
			begin, end, want = 2, -1, api.ErrTask
		}
		if is(0) { // the book may not be
			b.Tries, want = 0, api.ErrBook
		}
		for _, got := range []answer{begun(b, m(begin)), ended(b, m(end), false), ended(b, m(end), true)} {
			isError(t, fmt.Sprint("wrong: ", wrong), got.err, want)
			if want != api.OK {
				isAnswer(t, fmt.Sprint("wrong: ", wrong), b, got, refused(want))
			}
		}
		isAnswer(t, "Begin", b, begun(b, m(begin)), plainBegin(b, m(begin)))
		isAnswer(t, "Done", b, ended(b, m(end), false), plainEnd(b, m(end), false))
		isAnswer(t, "Died", b, ended(b, m(end), true), plainEnd(b, m(end), true))
	}
}

// A blame of and by the last tasks that may be.
func TestBlameOfManyTasks(t *testing.T) {
	b, err := New(api.MaxTasks, api.MaxParts, 2)
	isError(t, "New", err, api.OK)
	for task := range b.Maps {
		b.Maps[task] = done(0)
	}
	b.Reduces[65534] = running(0)
	for _, c := range [][3]int{{65534, 255, 1}, {65534, 0, 1}, {65534, 255, 2}, {65534, 256, 1}, {65535, 255, 1}, {0, 255, 1}} {
		isAnswer(t, fmt.Sprint("Blame ", c), b, blames(b, c[0], c[1], c[2]), plainBlame(b, c[0], c[1], c[2]))
	}
	b = taken(t, "Blame", blames(b, 65534, 255, 1))
	isReady(t, b, m(255))
	b = begins(t, b, m(255), 2, true)
	b = taken(t, "Done", ended(b, m(255), false))
	b = begins(t, b, r(65534), 1, false)
	b = taken(t, "Blame", blames(b, 65534, 255, 2))
	if !b.Failed || !Over(b) || b.Maps[255] != ready(2) || b.Reduces[65534] != held(0) {
		t.Fatal("behind the last charge")
	}
}
