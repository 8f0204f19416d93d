package ledger

import (
	"fmt"
	"math/rand"
	"runtime"
	"slices"
	"sync"
	"testing"

	"winnow/api"
)

// 19.10

func scribble() api.TaskState { return api.TaskState{State: 9, Attempt: 99, Charged: -9} }

// scribbled writes into all of a list, and into the room behind it.
func scribbled(list []api.TaskState) {
	list = append(list, scribble())
	list = list[:cap(list)]
	for i := range list {
		list[i] = scribble()
	}
}

// roomy tells the same book, whose lists stand in one list with room behind each of them, and that list.
func roomy(b api.Book) (api.Book, []api.TaskState) {
	room := []api.TaskState{scribble(), scribble(), scribble()}
	whole := slices.Concat(b.Maps, room, b.Reduces, room)
	from := len(b.Maps) + len(room)
	handed := b
	handed.Maps = whole[:len(b.Maps)]
	handed.Reduces = whole[from : from+len(b.Reduces)]
	return handed, whole
}

// closed tells the same book, whose reduce tasks stand where the room of its map tasks is.
func closed(b api.Book) (api.Book, []api.TaskState) {
	whole := slices.Concat(b.Maps, b.Reduces)
	handed := b
	handed.Maps = whole[:len(b.Maps)]
	handed.Reduces = whole[len(b.Maps):]
	return handed, whole
}

// answers are what all changes of a book answer.
func answers(b api.Book, show func(what string, got answer)) {
	for _, id := range ids(upTo(2)...) {
		show(fmt.Sprint("Begin ", id), begun(b, id))
		show(fmt.Sprint("Done ", id), ended(b, id, false))
		show(fmt.Sprint("Died ", id), ended(b, id, true))
		for attempt := range 4 {
			show(fmt.Sprint("Blame ", id, attempt), blames(b, id.Kind, id.Task, attempt))
		}
	}
}

// someBooks are books of all kinds, some of which may not be.
func someBooks(random *rand.Rand, count int) []api.Book {
	var list []api.Book
	for range count {
		b := randomBook(random, random.Intn(4), 1+random.Intn(3), 1+random.Intn(3))
		if random.Intn(10) == 0 {
			b.Reduces[0].Attempt++
		}
		list = append(list, b)
	}
	return list
}

// What is handed in is not changed, with the room behind it, whether it may be or not.
func TestBooksAreNotChanged(t *testing.T) {
	for _, b := range someBooks(rand.New(rand.NewSource(1910)), 800) {
		for _, lay := range []func(api.Book) (api.Book, []api.TaskState){roomy, closed} {
			handed, whole := lay(b)
			before := slices.Clone(whole)
			isTold(t, handed)
			answers(handed, func(what string, got answer) {
				scribbled(got.book.Maps)
				scribbled(got.book.Reduces)
				if !slices.Equal(whole, before) {
					t.Fatalf("%s of %s: what was handed in is %s now", what, written(b), written(whole))
				}
			})
			isBook(t, "what was handed in", handed, b)
		}
	}
}

// What was answered does not show what becomes of the book that was handed in, nor of its room.
func TestBooksAreNotKept(t *testing.T) {
	for _, b := range someBooks(rand.New(rand.NewSource(1911)), 300) {
		for _, lay := range []func(api.Book) (api.Book, []api.TaskState){roomy, closed} {
			handed, whole := lay(b)
			before := slices.Clone(whole)
			want := map[string]answer{}
			answers(b, func(what string, got answer) { want[what] = got })
			all := map[string]answer{}
			answers(handed, func(what string, got answer) { all[what] = got })
			list := Ready(handed)
			for i := range whole {
				whole[i] = scribble()
			}
			for what, got := range all {
				isAnswer(t, what, b, got, want[what])
			}
			if !slices.Equal(list, plainReady(b)) {
				t.Fatalf("Ready of %s has become %s", written(b), written(list))
			}
			// Other states in the same lists are another book: of what stood there nothing has been kept.
			if len(b.Reduces) > 0 && Check(handed) != api.ErrBook {
				t.Fatalf("Check of %s: OK", written(handed))
			}
			copy(whole, before)
			isTold(t, handed)
		}
	}
}

// No two lists of an answer share anything, nor with another answer.
func TestAnswersAreNew(t *testing.T) {
	for _, b := range someBooks(rand.New(rand.NewSource(1912)), 300) {
		for _, lay := range []func(api.Book) (api.Book, []api.TaskState){roomy, closed} {
			handed, _ := lay(b)
			want := map[string]answer{}
			answers(b, func(what string, got answer) { want[what] = got })
			answers(handed, func(what string, got answer) {
				maps := slices.Clone(got.book.Maps)
				scribbled(got.book.Reduces)
				if !slices.Equal(got.book.Maps, maps) {
					t.Fatalf("%s of %s: the lists of the answer share memory", what, written(b))
				}
			})
			answers(handed, func(what string, got answer) {
				isAnswer(t, what, b, got, want[what])
				reduces := slices.Clone(got.book.Reduces)
				scribbled(got.book.Maps)
				if !slices.Equal(got.book.Reduces, reduces) {
					t.Fatalf("%s of %s: the lists of the answer share memory", what, written(b))
				}
			})
			isTold(t, handed)
		}
	}
}

// A book that was answered stays as it is, whatever later calls make of it.
func TestEarlierBooksStay(t *testing.T) {
	random := rand.New(rand.NewSource(1913))
	for range 200 {
		b := newBook(t, 2, 2, 3).b
		all, copies := []api.Book{b}, []api.Book{copied(b)}
		for range 40 {
			answers(all[len(all)-1], func(_ string, got answer) {
				if got.err == api.OK && random.Intn(6) == 0 {
					all, copies = append(all, got.book), append(copies, copied(got.book))
				}
			})
		}
		for i := range all {
			isBook(t, "an earlier book", all[i], copies[i])
		}
		for _, last := range all[1:] {
			scribbled(last.Maps)
			scribbled(last.Reduces)
		}
		isBook(t, "the first book", all[0], copies[0])
	}
}

func TestNewBooksAreNew(t *testing.T) {
	for range 3 {
		for _, c := range [][3]int{{0, 1, 1}, {2, 3, 2}, {256, 300, 16}} {
			b := newBook(t, c[0], c[1], c[2]).b
			want := bookOf(c[2], make([]api.TaskState, c[0]), make([]api.TaskState, c[1]))
			isBook(t, "New", b, want)
			scribbled(b.Maps)
			isBook(t, "New, with other map tasks", bookOf(c[2], want.Maps, b.Reduces), want)
			scribbled(b.Reduces)
		}
	}
}

func TestReadyIsNew(t *testing.T) {
	for _, b := range []api.Book{newBook(t, 3, 2, 2).b, newBook(t, 0, 3, 2).b, bookOf(2, tasks(done(0)), tasks(held(0), ready(1), ready(0)))} {
		want := plainReady(b)
		for range 3 {
			list := Ready(b)
			if len(want) != 3 || !slices.Equal(list, want) {
				t.Fatalf("Ready: %s, and not %s", written(list), written(want))
			}
			list = append(list, api.TaskId{Kind: 7, Task: 7})
			list = list[:cap(list)]
			for i := range list {
				list[i] = api.TaskId{Kind: 8, Task: 8}
			}
		}
	}
}

// live tells how many bytes are held.
func live() int64 {
	runtime.GC()
	runtime.GC()
	var stats runtime.MemStats
	runtime.ReadMemStats(&stats)
	return int64(stats.HeapAlloc)
}

// A book that was answered does not hold on to the room behind what was handed in.
func TestRoomIsNotHeld(t *testing.T) {
	const room = 1 << 21
	maps, reduces := make([]api.TaskState, room), make([]api.TaskState, room)
	before := live()
	kept := []api.Book{}
	for _, count := range []int{0, 1} {
		b := taken(t, "Begin", begun(bookOf(2, maps[:count], reduces[:1]), api.TaskId{Kind: 1 - count}))
		c := taken(t, "Died", ended(b, api.TaskId{Kind: 1 - count}, true))
		kept = append(kept, b, c)
	}
	runtime.KeepAlive(maps)
	runtime.KeepAlive(reduces)
	maps, reduces = nil, nil
	if after := live(); after > before-room*24 {
		t.Fatalf("%d bytes are held, of %d", after, before)
	}
	for _, b := range kept {
		isError(t, "Check", Check(b), api.OK)
	}
}

// Several callers at one time, each with the same book.
func TestManyCallers(t *testing.T) {
	b, _ := roomy(bookOf(3, tasks(done(0), done(1)), tasks(running(0), held(1), ready(0))))
	want := map[string]answer{}
	answers(copied(b), func(what string, got answer) { want[what] = got })
	var group sync.WaitGroup
	wrong := make([]string, 8)
	for i := range wrong {
		group.Go(func() {
			for range 100 {
				answers(b, func(what string, got answer) {
					if w := want[what]; got.err != w.err || got.attempt != w.attempt || got.is != w.is || !alike(got.book, w.book) {
						wrong[i] = what
					}
				})
				if len(Ready(b)) != 2 || Over(b) || Check(b) != api.OK {
					wrong[i] = "what is told"
				}
			}
		})
	}
	group.Wait()
	for _, what := range wrong {
		if what != "" {
			t.Fatal(what)
		}
	}
}

// What a call answers hangs on nothing that was asked for ahead of it.
func TestNothingIsLeftBehind(t *testing.T) {
	random := rand.New(rand.NewSource(1914))
	all := someBooks(random, 60)
	want := make([]map[string]answer, len(all))
	for i, b := range all {
		want[i] = map[string]answer{}
		answers(b, func(what string, got answer) { want[i][what] = got })
	}
	for range 600 {
		i := random.Intn(len(all))
		answers(all[i], func(what string, got answer) { isAnswer(t, what, all[i], got, want[i][what]) })
		isTold(t, all[i])
	}
}
