package ledger

import (
	"math/rand"
	"testing"

	"winnow/api"
)

// 19.3, 19.4, 19.5

func TestReadyByHand(t *testing.T) {
	for _, c := range []struct {
		b    api.Book
		want []api.TaskId
	}{
		{bookOf(2, nil, tasks(ready(0))), []api.TaskId{r(0)}},
		{bookOf(2, nil, tasks(ready(0), ready(1), ready(0))), []api.TaskId{r(0), r(1), r(2)}},
		{bookOf(2, tasks(ready(0), ready(1), ready(0)), tasks(ready(0))), []api.TaskId{m(0), m(1), m(2)}},
		{bookOf(2, tasks(ready(0), running(0), done(0), ready(1)), tasks(ready(0), held(0))), []api.TaskId{m(0), m(3)}},
		{bookOf(2, tasks(running(0), done(0)), tasks(ready(0), held(0))), nil},
		{bookOf(2, tasks(done(0), running(0)), tasks(ready(0), held(0))), nil},
		{bookOf(2, tasks(done(0), done(1)), tasks(ready(0), running(0), held(0), done(0), ready(1), running(1), held(1), done(1))), []api.TaskId{r(0), r(2), r(4), r(6)}},
		{bookOf(2, tasks(done(0), done(1)), tasks(running(0), running(1), done(0))), nil},
		{bookOf(2, tasks(done(0)), tasks(done(0), done(1))), nil},
		{bookOf(2, tasks(ready(1), done(0)), tasks(done(0), done(1))), []api.TaskId{m(0)}},
		{failed(bookOf(2, tasks(ready(2), ready(0)), tasks(ready(0)))), nil},
		{failed(bookOf(2, tasks(done(0), done(0)), tasks(ready(2), ready(0), held(0)))), nil},
		{failed(bookOf(1, nil, tasks(ready(1), ready(0)))), nil},
		{bookOf(1, nil, tasks(ready(1), ready(0))), nil},
		{bookOf(0, nil, tasks(ready(0))), nil},
		{bookOf(1, nil, nil), nil},
		{api.Book{}, nil},
	} {
		isReady(t, c.b, c.want...)
		isTold(t, c.b)
	}
}

func TestOverByHand(t *testing.T) {
	for _, c := range []struct {
		b    api.Book
		want bool
	}{
		{bookOf(2, nil, tasks(ready(0))), false},
		{bookOf(2, nil, tasks(done(0))), true},
		{bookOf(2, nil, tasks(done(0), done(1))), true},
		{bookOf(2, nil, tasks(done(0), running(1))), false},
		{bookOf(2, nil, tasks(held(0), done(0))), false},
		{bookOf(2, tasks(done(0)), tasks(ready(0))), false},
		{bookOf(2, tasks(done(0)), tasks(done(0))), true},
		{bookOf(2, tasks(ready(1)), tasks(done(0))), true},
		{bookOf(2, tasks(running(0), ready(1)), tasks(done(0))), true},
		{failed(bookOf(2, tasks(ready(2)), tasks(ready(0)))), true},
		{failed(bookOf(2, tasks(done(0)), tasks(done(0), ready(2)))), true},
		// Of what Check refuses: false.
		{failed(bookOf(2, tasks(done(0)), tasks(done(0)))), false},
		{bookOf(2, tasks(ready(2)), tasks(done(0))), false},
		{bookOf(2, tasks(held(0)), tasks(done(0))), false},
		{bookOf(17, nil, tasks(done(0))), false},
		{bookOf(2, nil, nil), false},
		{failed(bookOf(2, nil, nil)), false},
		{api.Book{}, false},
		{api.Book{Failed: true}, false},
	} {
		if got := Over(c.b); got != c.want {
			t.Fatalf("Over of %s: %v", written(c.b), got)
		}
		isTold(t, c.b)
	}
}

func TestBegunByHand(t *testing.T) {
	for _, c := range []struct {
		b                 api.Book
		attempts, charges int
	}{
		{bookOf(2, nil, tasks(ready(0))), 0, 0},
		{bookOf(9, tasks(ready(3)), tasks(ready(0))), 3, 3},
		{bookOf(9, tasks(running(3)), tasks(ready(0))), 4, 3},
		{bookOf(9, tasks(done(3), done(0)), tasks(held(2), ready(4), running(0), done(1))), 4 + 1 + 3 + 4 + 1 + 2, 3 + 2 + 4 + 1},
		{failed(bookOf(9, tasks(done(3), ready(9)), tasks(ready(0)))), 13, 12},
		{failed(bookOf(9, tasks(done(3)), tasks(ready(9)))), 13, 12},
		// Of what Check refuses: 0, 0.
		{bookOf(9, tasks(done(3), ready(9)), tasks(ready(0))), 0, 0},
		{failed(bookOf(9, tasks(done(3)), tasks(ready(0)))), 0, 0},
		{bookOf(9, tasks(held(3)), tasks(ready(0))), 0, 0},
		{bookOf(9, tasks(done(3)), nil), 0, 0},
		{bookOf(0, tasks(done(3)), tasks(ready(3))), 0, 0},
	} {
		attempts, charges := Begun(c.b)
		if attempts != c.attempts || charges != c.charges {
			t.Fatalf("Begun of %s: %d, %d, and not %d, %d", written(c.b), attempts, charges, c.attempts, c.charges)
		}
		isTold(t, c.b)
	}
}

// A book that Check refuses tells nothing, whatever else is in it.
func TestNothingIsToldOfWrongBooks(t *testing.T) {
	for _, right := range []api.Book{
		bookOf(3, tasks(done(1), done(0)), tasks(ready(1), held(2), ready(0))),
		bookOf(3, tasks(done(1), ready(1)), tasks(done(1), done(0), done(0))),
		failed(bookOf(3, tasks(done(1), ready(1)), tasks(ready(3), ready(0), held(0)))),
	} {
		isTold(t, right)
		for _, spoil := range []func(b *api.Book){
			func(b *api.Book) { b.Tries = 0 },
			func(b *api.Book) { b.Tries = 17 },
			func(b *api.Book) { b.Tries = 1 },
			func(b *api.Book) { b.Failed = !b.Failed },
			func(b *api.Book) { b.Maps[1].Attempt++ },
			func(b *api.Book) { b.Maps[0].State = api.TaskHeld },
			func(b *api.Book) { b.Reduces[2].Charged-- },
			func(b *api.Book) { b.Reduces[2].State = 4 },
			func(b *api.Book) { b.Reduces = nil },
			func(b *api.Book) { b.Maps = make([]api.TaskState, 257) },
			func(b *api.Book) { b.Reduces = make([]api.TaskState, 65536) },
		} {
			b := copied(right)
			spoil(&b)
			isChecked(t, b, api.ErrBook)
			attempts, charges := Begun(b)
			if len(Ready(b)) != 0 || Over(b) || attempts != 0 || charges != 0 {
				t.Fatalf("of %s something is told", written(b))
			}
		}
	}
}

func TestEachSmallBookIsTold(t *testing.T) {
	count := 0
	for _, c := range [][3]int{{0, 1, 3}, {0, 2, 2}, {1, 1, 3}, {1, 2, 2}, {2, 1, 2}, {3, 1, 1}, {2, 2, 1}, {2, 2, 2}, {1, 3, 1}, {3, 2, 1}} {
		eachBook(c[0], c[1], c[2], func(b api.Book) {
			isChecked(t, b, api.OK)
			isTold(t, b)
			count++
		})
	}
	if count < 5000 {
		t.Fatal(count, "books")
	}
}

// Many tasks: which are told, and in which order.
func TestReadyOfManyTasks(t *testing.T) {
	random := rand.New(rand.NewSource(193))
	for i := range 40 {
		b := randomBook(random, random.Intn(257), 1+random.Intn(3000), 1+random.Intn(16))
		if i%2 == 0 && !b.Failed {
			for k := range b.Maps {
				b.Maps[k] = done(0)
			}
		}
		isTold(t, b)
	}
	most := randomBook(random, 256, 65535, 16)
	isTold(t, most)
	for k := range most.Maps {
		most.Maps[k] = done(k % 16)
	}
	isTold(t, most)
	isTold(t, bookOf(16, most.Maps, make([]api.TaskState, 65535)))
	if list := Ready(bookOf(16, most.Maps, make([]api.TaskState, 65535))); len(list) != 65535 || list[65534] != r(65534) {
		t.Fatal("Ready of the most reduce tasks:", len(list))
	}
}
