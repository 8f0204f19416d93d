package ledger

import (
	"fmt"
	"math"
	"math/rand"
	"slices"
	"testing"

	"winnow/api"
)

// 19.1

func checks(t *testing.T, b api.Book, want api.Errno) {
	t.Helper()
	isChecked(t, b, want)
	isTold(t, b)
}

// A book with one task of a kind that is to be looked at: the other kind has what may always be.
func with(kind int, s api.TaskState, tries int) api.Book {
	if kind == api.TaskMap {
		return bookOf(tries, tasks(s), tasks(ready(0)))
	}
	return bookOf(tries, nil, tasks(s))
}

func TestCheckOfStatesByHand(t *testing.T) {
	for _, c := range []struct {
		kind int
		s    api.TaskState
		want api.Errno
	}{
		{api.TaskMap, api.TaskState{State: api.TaskReady}, api.OK},
		{api.TaskMap, api.TaskState{State: api.TaskReady, Attempt: 1, Charged: 1}, api.OK},
		{api.TaskMap, api.TaskState{State: api.TaskReady, Attempt: 2, Charged: 2}, api.OK},
		{api.TaskMap, api.TaskState{State: api.TaskReady, Attempt: 1}, api.ErrBook},
		{api.TaskMap, api.TaskState{State: api.TaskReady, Charged: 1}, api.ErrBook},
		{api.TaskMap, api.TaskState{State: api.TaskReady, Attempt: 2, Charged: 1}, api.ErrBook},
		{api.TaskMap, api.TaskState{State: api.TaskReady, Attempt: -1, Charged: -1}, api.ErrBook},
		{api.TaskMap, api.TaskState{State: api.TaskRunning, Attempt: 1}, api.OK},
		{api.TaskMap, api.TaskState{State: api.TaskRunning, Attempt: 3, Charged: 2}, api.OK},
		{api.TaskMap, api.TaskState{State: api.TaskRunning}, api.ErrBook},
		{api.TaskMap, api.TaskState{State: api.TaskRunning, Attempt: 2}, api.ErrBook},
		{api.TaskMap, api.TaskState{State: api.TaskRunning, Attempt: 1, Charged: 1}, api.ErrBook},
		{api.TaskMap, api.TaskState{State: api.TaskRunning, Charged: -1}, api.ErrBook},
		{api.TaskMap, api.TaskState{State: api.TaskHeld, Attempt: 1}, api.ErrBook},
		{api.TaskMap, api.TaskState{State: api.TaskHeld}, api.ErrBook},
		{api.TaskMap, api.TaskState{State: api.TaskHeld, Attempt: -1}, api.ErrBook},
		{api.TaskMap, api.TaskState{State: api.TaskHeld, Charged: 1}, api.ErrBook},
		{api.TaskMap, api.TaskState{State: api.TaskHeld, Attempt: 1, Charged: 2}, api.ErrBook},
		{api.TaskMap, api.TaskState{State: api.TaskDone, Attempt: 1}, api.OK},
		{api.TaskMap, api.TaskState{State: api.TaskDone, Attempt: 2, Charged: 1}, api.OK},
		{api.TaskMap, api.TaskState{State: api.TaskDone}, api.ErrBook},
		{api.TaskMap, api.TaskState{State: api.TaskDone, Attempt: 2}, api.ErrBook},
		{api.TaskMap, api.TaskState{State: 4}, api.ErrBook},
		{api.TaskMap, api.TaskState{State: 4, Attempt: 1}, api.ErrBook},
		{api.TaskMap, api.TaskState{State: -1}, api.ErrBook},
		{api.TaskMap, api.TaskState{State: -1, Attempt: 1}, api.ErrBook},
		{api.TaskReduce, api.TaskState{State: api.TaskReady}, api.OK},
		{api.TaskReduce, api.TaskState{State: api.TaskReady, Attempt: 1}, api.ErrBook},
		{api.TaskReduce, api.TaskState{State: api.TaskReady, Charged: 1}, api.ErrBook},
		{api.TaskReduce, api.TaskState{State: api.TaskRunning, Attempt: 1}, api.OK},
		{api.TaskReduce, api.TaskState{State: api.TaskRunning, Attempt: 2}, api.ErrBook},
		{api.TaskReduce, api.TaskState{State: api.TaskHeld, Attempt: 1}, api.OK},
		{api.TaskReduce, api.TaskState{State: api.TaskHeld, Attempt: 3, Charged: 2}, api.OK},
		{api.TaskReduce, api.TaskState{State: api.TaskHeld}, api.ErrBook},
		{api.TaskReduce, api.TaskState{State: api.TaskHeld, Attempt: 2}, api.ErrBook},
		{api.TaskReduce, api.TaskState{State: api.TaskHeld, Attempt: 1, Charged: 1}, api.ErrBook},
		{api.TaskReduce, api.TaskState{State: api.TaskDone, Attempt: 1}, api.OK},
		{api.TaskReduce, api.TaskState{State: api.TaskDone}, api.ErrBook},
		{api.TaskReduce, api.TaskState{State: 4, Attempt: 1}, api.ErrBook},
		{api.TaskReduce, api.TaskState{State: -1}, api.ErrBook},
	} {
		checks(t, with(c.kind, c.s, 3), c.want)
		checks(t, failed(with(c.kind, c.s, 3)), api.ErrBook)
	}
}

// A task that is charged Tries times is ready, and there is one just if Failed is set.
func TestCheckOfTheLastCharge(t *testing.T) {
	for tries := 1; tries <= api.MaxTries; tries++ {
		for _, kind := range []int{api.TaskMap, api.TaskReduce} {
			checks(t, with(kind, ready(tries), tries), api.ErrBook)
			checks(t, failed(with(kind, ready(tries), tries)), api.OK)
			checks(t, with(kind, ready(tries-1), tries), api.OK)
			checks(t, failed(with(kind, ready(tries-1), tries)), api.ErrBook)
			for _, s := range []api.TaskState{running(tries), held(tries), done(tries), ready(tries + 1), running(tries + 1), done(tries + 1), {Attempt: tries + 1, Charged: tries}} {
				checks(t, with(kind, s, tries), api.ErrBook)
				checks(t, failed(with(kind, s, tries)), api.ErrBook)
			}
		}
	}
}

func TestCheckOfEachState(t *testing.T) {
	for _, tries := range []int{1, 2, 3, 16} {
		for _, kind := range []int{api.TaskMap, api.TaskReduce} {
			for _, s := range oddStates(tries) {
				isTold(t, with(kind, s, tries))
				isTold(t, failed(with(kind, s, tries)))
			}
		}
	}
}

// One task that may not be spoils the book, wherever it stands.
func TestCheckOfEachPlace(t *testing.T) {
	for _, wrong := range []api.TaskState{{Attempt: 1}, {Charged: 1}, {State: 1}, {State: 3}, {State: 4}, {State: -1}, {State: 2}, {State: 2, Attempt: 2}, ready(-1), ready(3), ready(4), running(3)} {
		for place := range 9 {
			b := bookOf(3, tasks(ready(0), running(1), done(2), done(0)), tasks(ready(1), held(2), running(0), done(1), ready(2)))
			checks(t, b, api.OK)
			if place < 4 {
				b.Maps[place] = wrong
			} else {
				b.Reduces[place-4] = wrong
			}
			checks(t, b, api.ErrBook)
			if wrong == ready(3) {
				checks(t, failed(b), api.OK)
			} else {
				checks(t, failed(b), api.ErrBook)
			}
		}
	}
}

func TestCheckOfTwoThatHaveFailed(t *testing.T) {
	for _, b := range []api.Book{
		bookOf(2, tasks(ready(2), ready(2)), tasks(ready(0))),
		bookOf(2, tasks(ready(2), done(0)), tasks(ready(2))),
		bookOf(2, tasks(done(0)), tasks(ready(2), ready(2))),
		bookOf(1, nil, tasks(ready(1), ready(0), ready(1))),
		bookOf(1, tasks(ready(1), ready(1), ready(1)), tasks(ready(0))),
		bookOf(16, tasks(ready(16)), tasks(ready(15), ready(16))),
	} {
		checks(t, b, api.ErrBook)
		checks(t, failed(b), api.ErrBook)
	}
	checks(t, failed(bookOf(2, tasks(ready(2), ready(1)), tasks(ready(1)))), api.OK)
	checks(t, failed(bookOf(2, tasks(ready(1), ready(1)), tasks(ready(1), ready(2)))), api.OK)
	checks(t, failed(bookOf(2, tasks(running(1), ready(2)), tasks(running(1), held(1), done(0)))), api.OK)
}

func TestCheckOfNumbersOfTasks(t *testing.T) {
	all := make([]api.TaskState, api.MaxParts+1)
	for _, maps := range []int{0, 1, 2, 255, api.MaxTasks, api.MaxTasks + 1, api.MaxTasks + 2, 1000, api.MaxParts + 1} {
		for _, reduces := range []int{0, 1, 2, 256, 257, api.MaxParts - 1, api.MaxParts, api.MaxParts + 1} {
			want := api.OK
			if maps > 256 || reduces < 1 || reduces > 65535 {
				want = api.ErrBook
			}
			checks(t, bookOf(1, all[:maps], all[:reduces]), want)
		}
	}
	checks(t, bookOf(1, nil, make([]api.TaskState, 1<<20)), api.ErrBook)
	checks(t, bookOf(1, make([]api.TaskState, 1<<20), all[:1]), api.ErrBook)
}

func TestCheckOfTries(t *testing.T) {
	for _, tries := range ints() {
		want := api.ErrBook
		if tries >= 1 && tries <= 16 {
			want = api.OK
		}
		checks(t, bookOf(tries, nil, tasks(ready(0))), want)
		checks(t, bookOf(tries, tasks(ready(0)), tasks(ready(0), ready(0))), want)
	}
	checks(t, failed(bookOf(0, nil, tasks(ready(0)))), api.ErrBook)
	checks(t, failed(bookOf(-1, nil, tasks(ready(-1)))), api.ErrBook)
	checks(t, failed(bookOf(17, nil, tasks(ready(17)))), api.ErrBook)
	checks(t, failed(bookOf(math.MaxInt, nil, tasks(ready(math.MaxInt)))), api.ErrBook)
	checks(t, failed(bookOf(math.MinInt, nil, tasks(ready(math.MinInt)))), api.ErrBook)
}

// A nil list is as good as an empty one.
func TestCheckOfEmptyBooks(t *testing.T) {
	checks(t, api.Book{}, api.ErrBook)
	checks(t, api.Book{Failed: true}, api.ErrBook)
	for _, empty := range [][]api.TaskState{nil, {}} {
		checks(t, bookOf(1, empty, empty), api.ErrBook)
		checks(t, bookOf(1, tasks(ready(0)), empty), api.ErrBook)
		checks(t, failed(bookOf(1, tasks(ready(1)), empty)), api.ErrBook)
		checks(t, bookOf(1, empty, tasks(ready(0))), api.OK)
	}
}

// Numbers whose sums wrap are no book.
func TestCheckOfNumbersThatWrap(t *testing.T) {
	for _, kind := range []int{api.TaskMap, api.TaskReduce} {
		for _, s := range []api.TaskState{
			{State: 1, Attempt: math.MinInt, Charged: math.MaxInt},
			{State: 2, Attempt: math.MinInt, Charged: math.MaxInt},
			{State: 3, Attempt: math.MinInt, Charged: math.MaxInt},
			{State: 1, Attempt: 1, Charged: math.MinInt},
			{State: math.MinInt, Attempt: math.MinInt, Charged: math.MinInt},
			{State: math.MaxInt, Attempt: math.MaxInt, Charged: math.MaxInt},
			{State: 1 << 32, Attempt: 1 << 32, Charged: 1 << 32},
			{State: 256}, {State: 1 << 32}, {State: 1<<32 + 1, Attempt: 1}, {Attempt: 1 << 32}, {Attempt: 1 << 32, Charged: 1 << 32},
		} {
			for _, tries := range []int{1, 16, math.MaxInt} {
				checks(t, with(kind, s, tries), api.ErrBook)
				checks(t, failed(with(kind, s, tries)), api.ErrBook)
			}
		}
	}
}

// Books that are nearly right, in all their parts.
func TestCheckOfRandomBooks(t *testing.T) {
	random := rand.New(rand.NewSource(191))
	right := 0
	for range 60000 {
		b := randomBook(random, random.Intn(5), 1+random.Intn(4), 1+random.Intn(4))
		for range random.Intn(3) {
			list := b.Reduces
			if len(b.Maps) > 0 && random.Intn(2) == 0 {
				list = b.Maps
			}
			s := &list[random.Intn(len(list))]
			switch random.Intn(5) {
			case 0:
				s.State = random.Intn(6) - 1
			case 1:
				s.Attempt += random.Intn(3) - 1
			case 2:
				s.Charged += random.Intn(3) - 1
			case 3:
				b.Failed = !b.Failed
			default:
				b.Tries += random.Intn(3) - 1
			}
		}
		isTold(t, b)
		if Check(b) == api.OK {
			right++
		}
	}
	if right < 20000 || right > 40000 {
		t.Fatalf("%d of 60000 may be", right)
	}
}

// 19.2

func TestNewExamples(t *testing.T) {
	for _, c := range []struct{ maps, reduces, tries int }{{0, 1, 1}, {2, 1, 2}, {1, 1, 1}, {256, 1, 1}, {256, 65535, 16}, {0, 65535, 16}, {3, 2, 16}} {
		b, err := New(c.maps, c.reduces, c.tries)
		isError(t, fmt.Sprint("New", c), err, api.OK)
		want := bookOf(c.tries, make([]api.TaskState, c.maps), make([]api.TaskState, c.reduces))
		isBook(t, fmt.Sprint("New", c), b, want)
		checks(t, b, api.OK)
		all := plainReady(want)
		if c.maps > 0 && len(all) != c.maps || c.maps == 0 && len(all) != c.reduces {
			t.Fatal("New", c, len(all))
		}
		isReady(t, b, all...)
		if attempts, charges := Begun(b); attempts != 0 || charges != 0 || Over(b) {
			t.Fatal("New", c, attempts, charges)
		}
	}
}

func TestNewOfNumbers(t *testing.T) {
	numbers := func(more ...int) []int { return append(ints(), more...) }
	for _, maps := range numbers(254) {
		for _, reduces := range numbers(1000) {
			for _, tries := range numbers(8) {
				want := api.ErrArg
				if maps >= 0 && maps <= 256 && reduces >= 1 && reduces <= 65535 && tries >= 1 && tries <= 16 {
					want = api.OK
				}
				what := fmt.Sprint("New ", maps, reduces, tries)
				b, err := New(maps, reduces, tries)
				isError(t, what, err, want)
				if err != api.OK {
					isBook(t, what, b, api.Book{})
				} else if len(b.Maps) != maps || len(b.Reduces) != reduces || b.Tries != tries || b.Failed {
					t.Fatal(what, written(b))
				} else if slices.ContainsFunc(slices.Concat(b.Maps, b.Reduces), func(s api.TaskState) bool { return s != api.TaskState{} }) {
					t.Fatal(what, "has a task that is not new")
				}
			}
		}
	}
}
