package ledger

import (
	"fmt"
	"math"
	"math/rand"
	"slices"
	"testing"

	"winnow/api"
)

// The calls have these signatures, to the letter.
var (
	_ func(int, int, int) (api.Book, api.Errno)                   = New
	_ func(api.Book) api.Errno                                    = Check
	_ func(api.Book) []api.TaskId                                 = Ready
	_ func(api.Book, api.TaskId) (api.Book, int, bool, api.Errno) = Begin
	_ func(api.Book, api.TaskId) (api.Book, api.Errno)            = Done
	_ func(api.Book, api.TaskId) (api.Book, api.Errno)            = Died
	_ func(api.Book, int, int, int) (api.Book, bool, api.Errno)   = Blame
	_ func(api.Book) bool                                         = Over
	_ func(api.Book) (int, int)                                   = Begun
)

// Tasks, as they are written by hand.

func m(task int) api.TaskId { return api.TaskId{Kind: api.TaskMap, Task: task} }

func r(task int) api.TaskId { return api.TaskId{Kind: api.TaskReduce, Task: task} }

// The states of a task that was charged so often.

func ready(charged int) api.TaskState {
	return api.TaskState{State: 0, Attempt: charged, Charged: charged}
}

func running(charged int) api.TaskState {
	return api.TaskState{State: 1, Attempt: charged + 1, Charged: charged}
}

func held(charged int) api.TaskState {
	return api.TaskState{State: 2, Attempt: charged + 1, Charged: charged}
}

func done(charged int) api.TaskState {
	return api.TaskState{State: 3, Attempt: charged + 1, Charged: charged}
}

func tasks(list ...api.TaskState) []api.TaskState { return list }

func bookOf(tries int, maps, reduces []api.TaskState) api.Book {
	return api.Book{Tries: tries, Maps: maps, Reduces: reduces}
}

// failed tells the same book, which has Failed.
func failed(b api.Book) api.Book {
	b.Failed = true
	return b
}

// copied tells a book that shares nothing with b.
func copied(b api.Book) api.Book {
	b.Maps = append([]api.TaskState{}, b.Maps...)
	b.Reduces = append([]api.TaskState{}, b.Reduces...)
	return b
}

func alike(a, b api.Book) bool {
	return a.Tries == b.Tries && a.Failed == b.Failed && slices.Equal(a.Maps, b.Maps) && slices.Equal(a.Reduces, b.Reduces)
}

func isEmpty(b api.Book) bool {
	return b.Tries == 0 && !b.Failed && len(b.Maps) == 0 && len(b.Reduces) == 0
}

// plainTaskMayBe lists what a task may be, and looks for it.
func plainTaskMayBe(kind int, s api.TaskState, tries int) bool {
	for charged := 0; charged <= tries; charged++ {
		if s == ready(charged) {
			return true
		}
		if charged == tries {
			continue
		}
		if s == running(charged) || s == done(charged) || kind == 1 && s == held(charged) {
			return true
		}
	}
	return false
}

// plainCheck goes by the words of 19.1.
func plainCheck(b api.Book) api.Errno {
	if b.Tries < 1 || b.Tries > 16 || len(b.Maps) > 256 || len(b.Reduces) < 1 || len(b.Reduces) > 65535 {
		return 190
	}
	spent := 0
	for _, s := range b.Maps {
		if !plainTaskMayBe(0, s, b.Tries) {
			return 190
		}
		if s.Charged == b.Tries {
			spent++
		}
	}
	for _, s := range b.Reduces {
		if !plainTaskMayBe(1, s, b.Tries) {
			return 190
		}
		if s.Charged == b.Tries {
			spent++
		}
	}
	if b.Failed && spent == 1 || !b.Failed && spent == 0 {
		return 0
	}
	return 190
}

func plainAllDone(list []api.TaskState) bool {
	count := 0
	for _, s := range list {
		if s.State == 3 {
			count++
		}
	}
	return count == len(list)
}

// plainReady goes by the words of 19.3.
func plainReady(b api.Book) []api.TaskId {
	var list []api.TaskId
	if plainCheck(b) != 0 || b.Failed {
		return nil
	}
	for i, s := range b.Maps {
		if s.State == 0 {
			list = append(list, api.TaskId{Kind: 0, Task: i})
		}
	}
	if plainAllDone(b.Maps) {
		for i, s := range b.Reduces {
			if s.State == 0 || s.State == 2 {
				list = append(list, api.TaskId{Kind: 1, Task: i})
			}
		}
	}
	return list
}

func plainOver(b api.Book) bool {
	if plainCheck(b) != 0 {
		return false
	}
	return b.Failed || plainAllDone(b.Reduces)
}

func plainBegun(b api.Book) (int, int) {
	attempts, charges := 0, 0
	if plainCheck(b) == 0 {
		for _, s := range append(append([]api.TaskState{}, b.Maps...), b.Reduces...) {
			attempts += s.Attempt
			charges += s.Charged
		}
	}
	return attempts, charges
}

// answer is all that a change answers; what a call has not is zero.
type answer struct {
	book    api.Book
	attempt int
	is      bool
	err     api.Errno
}

func refused(err api.Errno) answer { return answer{err: err} }

// plainTask tells a task of a book, or none.
func plainTask(b *api.Book, t api.TaskId) *api.TaskState {
	if t.Kind == 0 && t.Task >= 0 && t.Task < len(b.Maps) {
		return &b.Maps[t.Task]
	}
	if t.Kind == 1 && t.Task >= 0 && t.Task < len(b.Reduces) {
		return &b.Reduces[t.Task]
	}
	return nil
}

func plainBegin(b api.Book, t api.TaskId) answer {
	b = copied(b)
	if plainCheck(b) != 0 {
		return refused(190)
	}
	s := plainTask(&b, t)
	if s == nil {
		return refused(191)
	}
	if !slices.Contains(plainReady(b), t) {
		return refused(192)
	}
	if s.State == 2 {
		s.State = 1
		return answer{b, s.Attempt, false, 0}
	}
	*s = api.TaskState{State: 1, Attempt: s.Attempt + 1, Charged: s.Charged}
	return answer{b, s.Attempt, true, 0}
}

// plainEnd is Done, or Died.
func plainEnd(b api.Book, t api.TaskId, died bool) answer {
	b = copied(b)
	if plainCheck(b) != 0 {
		return refused(190)
	}
	s := plainTask(&b, t)
	if s == nil {
		return refused(191)
	}
	if b.Failed || s.State != 1 {
		return refused(192)
	}
	if !died {
		s.State = 3
		return answer{book: b}
	}
	s.State = 0
	s.Charged++
	if s.Charged == b.Tries {
		b.Failed = true
	}
	return answer{book: b}
}

func plainBlame(b api.Book, reduce, task, attempt int) answer {
	b = copied(b)
	if plainCheck(b) != 0 {
		return refused(190)
	}
	if reduce < 0 || reduce >= len(b.Reduces) {
		return refused(191)
	}
	if task < 0 || task >= len(b.Maps) {
		return refused(191)
	}
	if attempt < 1 || attempt > b.Maps[task].Attempt {
		return refused(3)
	}
	if b.Failed || b.Reduces[reduce].State != 1 {
		return refused(192)
	}
	b.Reduces[reduce].State = 2
	if b.Maps[task].State != 3 || b.Maps[task].Attempt != attempt {
		return answer{book: b}
	}
	b.Maps[task].State = 0
	b.Maps[task].Charged++
	b.Failed = b.Maps[task].Charged == b.Tries
	return answer{book: b, is: true}
}

func begun(b api.Book, t api.TaskId) answer {
	c, attempt, isNew, err := Begin(b, t)
	return answer{c, attempt, isNew, err}
}

func ended(b api.Book, t api.TaskId, died bool) answer {
	end := Done
	if died {
		end = Died
	}
	c, err := end(b, t)
	return answer{book: c, err: err}
}

func blames(b api.Book, reduce, task, attempt int) answer {
	c, charged, err := Blame(b, reduce, task, attempt)
	return answer{book: c, is: charged, err: err}
}

// written tells a value's beginning.
func written(value any) string {
	return fmt.Sprintf("%.400s", fmt.Sprintf("%+v", value))
}

func isAnswer(t *testing.T, what string, b api.Book, got, want answer) {
	t.Helper()
	if got.err != want.err || got.attempt != want.attempt || got.is != want.is || !alike(got.book, want.book) {
		t.Fatalf("%s of %s: %s, and not %s", what, written(b), written(got), written(want))
	}
	if got.err != api.OK && !isEmpty(got.book) {
		t.Fatalf("%s of %s: error %d, and %s", what, written(b), got.err, written(got.book))
	}
}

func isBook(t *testing.T, what string, got, want api.Book) {
	t.Helper()
	if !alike(got, want) {
		t.Fatalf("%s: %s, and not %s", what, written(got), written(want))
	}
}

func isError(t *testing.T, what string, got, want api.Errno) {
	t.Helper()
	if got != want {
		t.Fatalf("%s: error %d, and not %d", what, got, want)
	}
}

// isChecked writes the book only where it has to be seen: it may be a long one.
func isChecked(t *testing.T, b api.Book, want api.Errno) {
	t.Helper()
	if got := Check(b); got != want {
		t.Fatalf("Check of %s: error %d, and not %d", written(b), got, want)
	}
}

func isReady(t *testing.T, b api.Book, want ...api.TaskId) {
	t.Helper()
	if got := Ready(b); !slices.Equal(got, want) {
		t.Fatalf("Ready of %s: %s, and not %s", written(b), written(got), written(want))
	}
}

// isTold holds what the calls that change nothing tell against the plain ones.
func isTold(t *testing.T, b api.Book) {
	t.Helper()
	isChecked(t, b, plainCheck(b))
	isReady(t, b, plainReady(b)...)
	if got, want := Over(b), plainOver(b); got != want {
		t.Fatalf("Over of %s: %v", written(b), got)
	}
	attempts, charges := Begun(b)
	if wantAttempts, wantCharges := plainBegun(b); attempts != wantAttempts || charges != wantCharges {
		t.Fatalf("Begun of %s: %d, %d", written(b), attempts, charges)
	}
}

// isChanged holds what all changes of a book make of it against the plain ones.
func isChanged(t *testing.T, b api.Book, ids []api.TaskId, numbers, attempts []int) {
	t.Helper()
	for _, id := range ids {
		isAnswer(t, "Begin of "+written(id), b, begun(b, id), plainBegin(b, id))
		isAnswer(t, "Done of "+written(id), b, ended(b, id, false), plainEnd(b, id, false))
		isAnswer(t, "Died of "+written(id), b, ended(b, id, true), plainEnd(b, id, true))
	}
	for _, reduce := range numbers {
		for _, task := range numbers {
			for _, attempt := range attempts {
				what := fmt.Sprint("Blame ", reduce, task, attempt)
				isAnswer(t, what, b, blames(b, reduce, task, attempt), plainBlame(b, reduce, task, attempt))
			}
		}
	}
}

// ids are tasks of the kinds from -1 to 2, with such numbers.
func ids(numbers ...int) []api.TaskId {
	var list []api.TaskId
	for kind := -1; kind <= 2; kind++ {
		for _, number := range numbers {
			list = append(list, api.TaskId{Kind: kind, Task: number})
		}
	}
	return list
}

// upTo are the numbers from -1 to n.
func upTo(n int) []int {
	var list []int
	for i := -1; i <= n; i++ {
		list = append(list, i)
	}
	return list
}

// ints are numbers at all edges, and far away from them.
func ints() []int {
	return []int{
		math.MinInt, math.MinInt + 1, math.MinInt32, -65536, -256, -17, -16, -2, -1, 0, 1, 2, 3, 4, 5, 15, 16, 17, 18, 255, 256, 257,
		65534, 65535, 65536, 1 << 31, 1 << 32, 1<<32 + 1, math.MaxInt - 1, math.MaxInt,
	}
}

// taskStates tells all that a task of a kind may be.
func taskStates(kind, tries int) []api.TaskState {
	var list []api.TaskState
	for charged := range tries {
		list = append(list, ready(charged), running(charged), done(charged))
		if kind == api.TaskReduce {
			list = append(list, held(charged))
		}
	}
	return append(list, ready(tries))
}

// oddStates are states around those that may be, most of which may not be.
func oddStates(tries int) []api.TaskState {
	var list []api.TaskState
	for state := -1; state <= 4; state++ {
		for charged := -2; charged <= tries+2; charged++ {
			for attempt := -3; attempt <= tries+4; attempt++ {
				list = append(list, api.TaskState{State: state, Attempt: attempt, Charged: charged})
			}
		}
	}
	for _, n := range ints() {
		list = append(list,
			api.TaskState{State: n}, api.TaskState{State: n, Attempt: 1}, api.TaskState{State: n, Attempt: n, Charged: n},
			api.TaskState{Attempt: n}, api.TaskState{Charged: n}, api.TaskState{Attempt: n, Charged: n},
			api.TaskState{State: 1, Attempt: n + 1, Charged: n}, api.TaskState{State: 1, Attempt: n}, api.TaskState{State: 1, Attempt: 1, Charged: n},
			api.TaskState{State: 2, Attempt: n + 1, Charged: n}, api.TaskState{State: 2, Attempt: n},
			api.TaskState{State: 3, Attempt: n + 1, Charged: n}, api.TaskState{State: 3, Attempt: n},
		)
	}
	return list
}

// eachBook shows all books of so many tasks and tries that may be.
func eachBook(maps, reduces, tries int, show func(b api.Book)) {
	b := api.Book{Tries: tries, Maps: make([]api.TaskState, maps), Reduces: make([]api.TaskState, reduces)}
	var fill func(place int)
	fill = func(place int) {
		if place == maps+reduces {
			for _, b.Failed = range []bool{false, true} {
				if plainCheck(b) == 0 {
					show(copied(b))
				}
			}
			return
		}
		kind, s := api.TaskMap, (*api.TaskState)(nil)
		if place < maps {
			s = &b.Maps[place]
		} else {
			kind, s = api.TaskReduce, &b.Reduces[place-maps]
		}
		for _, *s = range taskStates(kind, tries) {
			fill(place + 1)
		}
	}
	fill(0)
}

// randomBook tells a book that may be.
func randomBook(random *rand.Rand, maps, reduces, tries int) api.Book {
	b := api.Book{Tries: tries}
	draw := func(kind int) api.TaskState {
		all := taskStates(kind, tries)
		return all[random.Intn(len(all)-1)]
	}
	for range maps {
		b.Maps = append(b.Maps, draw(api.TaskMap))
	}
	for range reduces {
		b.Reduces = append(b.Reduces, draw(api.TaskReduce))
	}
	if random.Intn(3) == 0 {
		for i := range b.Maps {
			charged := random.Intn(tries)
			b.Maps[i] = done(charged)
		}
	}
	if random.Intn(5) == 0 {
		b.Failed = true
		if place := random.Intn(maps + reduces); place < maps {
			b.Maps[place] = ready(tries)
		} else {
			b.Reduces[place-maps] = ready(tries)
		}
	}
	return b
}

// taken tells a call's book, which has to be there.
func taken(t *testing.T, what string, a answer) api.Book {
	t.Helper()
	isError(t, what, a.err, api.OK)
	return a.book
}
