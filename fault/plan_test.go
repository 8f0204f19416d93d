package fault

import (
	"math/rand"
	"slices"
	"testing"

	"winnow/api"
)

// plan tells a plan of entries that may be.
func plan(t *testing.T, l ...api.Fault) *Plan {
	t.Helper()
	p, err := New(l)
	isError(t, "New of "+written(l), err, api.OK)
	if p == nil {
		t.Fatal("no plan")
	}
	return p
}

func stopsAt(t *testing.T, p *Plan, kind, task, attempt int, want int64) {
	t.Helper()
	if at, is := p.Stop(kind, task, attempt); at != want || !is {
		t.Fatalf("Stop(%d, %d, %d): %d, %t, and not %d", kind, task, attempt, at, is, want)
	}
}

func goesOn(t *testing.T, p *Plan, kind, task, attempt int) {
	t.Helper()
	if at, is := p.Stop(kind, task, attempt); at != 0 || is {
		t.Fatalf("Stop(%d, %d, %d): %d, %t, and not 0, false", kind, task, attempt, at, is)
	}
}

func isDue(t *testing.T, p *Plan, task, attempt, moment, reader int, want ...api.Fault) {
	t.Helper()
	isSame(t, "Due", p.Due(task, attempt, moment, reader), want)
}

func isLeft(t *testing.T, p *Plan, want ...api.Fault) {
	t.Helper()
	isSame(t, "Left", p.Left(), want)
}

// 16.4

func TestNewErrors(t *testing.T) {
	refused := func(l []api.Fault, want api.Errno) {
		t.Helper()
		p, err := New(l)
		isError(t, "New of "+written(l), err, want)
		if p != nil {
			t.Fatal("a plan beside an error")
		}
	}
	refused(make([]api.Fault, api.MaxFaults+1), api.ErrLong)
	refused(stops(api.MaxFaults+1), api.ErrLong)
	refused(make([]api.Fault, api.MaxFaults), api.ErrFault)
	refused([]api.Fault{stop(0, 3, 1, 1), stop(0, 3, 1, 2)}, api.ErrFault)
	for _, f := range odd() {
		if !plainMayBe(f) {
			refused([]api.Fault{f}, api.ErrFault)
			refused([]api.Fault{stop(0, 99, 9, 9), f}, api.ErrFault)
		}
	}
}

// All entries of a new plan are still to come.
func TestNewPlans(t *testing.T) {
	isLeft(t, plan(t))
	isLeft(t, plan(t, []api.Fault{}...))
	isLeft(t, plan(t, some()...), some()...)
	isLeft(t, plan(t, stops(api.MaxFaults)...), stops(api.MaxFaults)...)
	for _, f := range odd() {
		if plainMayBe(f) {
			isLeft(t, plan(t, f), f)
		}
	}
}

// 16.5

func TestStop(t *testing.T) {
	l := []api.Fault{stop(0, 3, 1, 300), stop(1, 3, 1, 0), stop(0, 3, 2, 7), flip(4, 1, 0, 0, 5, 1), length(5, 1, 0, 0, 5)}
	p := plan(t, l...)
	for _, c := range [][3]int{{0, 3, 3}, {0, 3, 0}, {0, 3, -1}, {0, 2, 1}, {0, 4, 1}, {0, 5, 1}, {1, 3, 2}, {1, 4, 1}, {2, 3, 1}, {-1, 3, 1}, {0, -3, 1}, {3, 0, 1}, {0, 1, 3}} {
		goesOn(t, p, c[0], c[1], c[2])
		isLeft(t, p, l...)
	}
	stopsAt(t, p, 0, 3, 1, 300)
	isLeft(t, p, l[1:]...)
	goesOn(t, p, 0, 3, 1)
	isLeft(t, p, l[1:]...)
	stopsAt(t, p, 0, 3, 2, 7)
	isLeft(t, p, l[1], l[3], l[4])
	stopsAt(t, p, 1, 3, 1, 0)
	isLeft(t, p, l[3:]...)
	goesOn(t, p, 1, 3, 1)
	goesOn(t, p, 0, 3, 2)
	isLeft(t, p, l[3:]...)
}

// Numbers of all kinds are asked for; only what is there is told.
func TestStopOfOddNumbers(t *testing.T) {
	for _, f := range []api.Fault{stop(0, 0, 1, 9), stop(0, 255, 16, 1<<40), stop(1, 65534, 1, 1<<63-1), stop(1, 0, 16, 0)} {
		p := plan(t, f, flip(1, 1, 0, 0, 0, 1), length(0, 1, 0, 0, 1))
		for _, n := range ints() {
			for i, asked := range [][3]int{{n, f.Task, f.Attempt}, {f.TaskKind, n, f.Attempt}, {f.TaskKind, f.Task, n}} {
				if asked != [3]int{f.TaskKind, f.Task, f.Attempt} {
					goesOn(t, p, asked[0], asked[1], asked[2])
					continue
				}
				if i == 2 {
					stopsAt(t, p, f.TaskKind, f.Task, f.Attempt, f.At)
					goesOn(t, p, f.TaskKind, f.Task, f.Attempt)
				}
			}
		}
		isLeft(t, p, flip(1, 1, 0, 0, 0, 1), length(0, 1, 0, 0, 1))
	}
}

// 16.6

func TestDueExample(t *testing.T) {
	f := flip(0, 1, api.MomentRead, 2, 7, 3)
	p := plan(t, f)
	isDue(t, p, 0, 1, api.MomentRead, 1)
	isDue(t, p, 0, 1, api.MomentRead, 2, f)
	isDue(t, p, 0, 1, api.MomentRead, 2)
	isLeft(t, p)
}

func TestDue(t *testing.T) {
	l := []api.Fault{
		length(3, 1, api.MomentOut, 0, -2), stop(0, 3, 1, 5), flip(3, 1, api.MomentOut, 0, 9, 1),
		flip(3, 2, api.MomentRead, 4, 9, 3), length(3, 2, api.MomentRead, 0, 5), flip(4, 1, api.MomentOpen, 0, 9, 5), length(4, 1, api.MomentRead, 4, 1),
	}
	p := plan(t, l...)
	for _, c := range [][4]int{
		{3, 1, 0, 0}, {3, 1, 2, 0}, {3, 1, 3, 0}, {3, 1, -1, 0}, {2, 1, 1, 0}, {5, 1, 1, 0}, {3, 3, 1, 0}, {3, 0, 1, 0}, {-3, 1, 1, 0},
		{3, 2, 2, 1}, {3, 2, 2, 3}, {3, 2, 2, 5}, {3, 2, 2, -4}, {3, 2, 0, 4}, {3, 2, 1, 4}, {4, 2, 2, 4}, {4, 1, 2, 0}, {4, 1, 1, 4}, {3, 2, 0, 0}, {3, 2, 1, 0},
	} {
		isDue(t, p, c[0], c[1], c[2], c[3])
		isLeft(t, p, l...)
	}
	isDue(t, p, 3, 1, api.MomentOut, 77, l[0], l[2])
	isLeft(t, p, l[1], l[3], l[4], l[5], l[6])
	isDue(t, p, 3, 1, api.MomentOut, 77)
	isDue(t, p, 3, 1, api.MomentOut, 0)
	isDue(t, p, 3, 2, api.MomentRead, 4, l[3])
	isLeft(t, p, l[1], l[4], l[5], l[6])
	isDue(t, p, 3, 2, api.MomentRead, 0, l[4])
	isDue(t, p, 4, 1, api.MomentOpen, -1, l[5])
	isLeft(t, p, l[1], l[6])
	isDue(t, p, 4, 1, api.MomentRead, 4, l[6])
	isLeft(t, p, l[1])
	stopsAt(t, p, 0, 3, 1, 5)
	isLeft(t, p)
}

// A stop has the moment 0, as it has no moment: it is never due.
func TestStopsAreNotDue(t *testing.T) {
	l := []api.Fault{stop(0, 3, 1, 5), stop(1, 4, 1, 6)}
	p := plan(t, l...)
	for moment := range 3 {
		for task := range 6 {
			isDue(t, p, task, 1, moment, 0)
		}
	}
	isLeft(t, p, l...)
}

// And damage is no stop, though its kind of task is 0.
func TestDamageIsNoStop(t *testing.T) {
	l := []api.Fault{flip(3, 1, 0, 0, 5, 1), length(3, 1, 0, 0, 5)}
	p := plan(t, l...)
	for kind := -1; kind < 4; kind++ {
		goesOn(t, p, kind, 3, 1)
	}
	isLeft(t, p, l...)
}

// Both kinds of damage come in the order of the script, whichever stands first.
func TestDueOrder(t *testing.T) {
	turned, longer := flip(3, 1, 1, 0, 5, 1), length(3, 1, 1, 0, 5)
	between := flip(2, 1, 1, 0, 5, 1)
	isDue(t, plan(t, turned, between, longer), 3, 1, 1, 0, turned, longer)
	isDue(t, plan(t, longer, between, turned), 3, 1, 1, 0, longer, turned)
	isLeft(t, plan(t, longer, between, turned), longer, between, turned)
}

// With MomentRead alone the reader is looked at.
func TestDueReaders(t *testing.T) {
	for moment := range 3 {
		for _, reader := range ints() {
			f := flip(3, 1, moment, 0, 5, 1)
			p := plan(t, f)
			if moment != api.MomentRead || reader == 0 {
				isDue(t, p, 3, 1, moment, reader, f)
				isLeft(t, p)
				continue
			}
			isDue(t, p, 3, 1, moment, reader)
			isLeft(t, p, f)
			isDue(t, p, 3, 1, moment, 0, f)
			isLeft(t, p)
		}
	}
	f := length(255, 16, api.MomentRead, 65534, 5)
	p := plan(t, f)
	for _, reader := range ints() {
		if reader != 65534 {
			isDue(t, p, 255, 16, api.MomentRead, reader)
		}
	}
	isDue(t, p, 255, 16, api.MomentRead, 65534, f)
}

// 16.7

func TestLeft(t *testing.T) {
	l := []api.Fault{stop(0, 0, 1, 9), flip(0, 1, 0, 0, 5, 1), stop(1, 0, 1, 9), length(0, 1, 2, 1, 5)}
	p := plan(t, l...)
	isLeft(t, p, l...)
	isLeft(t, p, l...)
	stopsAt(t, p, 1, 0, 1, 9)
	isLeft(t, p, l[0], l[1], l[3])
	isDue(t, p, 0, 1, 2, 1, l[3])
	isLeft(t, p, l[0], l[1])
	isDue(t, p, 0, 1, 0, 1, l[1])
	isLeft(t, p, l[0])
	stopsAt(t, p, 0, 0, 1, 9)
	isLeft(t, p)
	isLeft(t, p)
}

func TestNilPlan(t *testing.T) {
	var p *Plan
	for _, n := range ints() {
		goesOn(t, p, n, 0, 1)
		goesOn(t, p, 0, n, 1)
		goesOn(t, p, 0, 0, n)
		for moment := -1; moment < 4; moment++ {
			isDue(t, p, n, 1, moment, 0)
			isDue(t, p, 0, n, moment, n)
		}
	}
	isLeft(t, p)
}

// A plan against the plain one, whatever is asked.
func TestPlansAreAsThePlainOne(t *testing.T) {
	random := rand.New(rand.NewSource(166))
	for range 2000 {
		l := randomScript(random, 30)
		p, plain := plan(t, l...), newPlainPlan(l)
		for range 60 {
			if random.Intn(2) == 0 {
				kind, task, attempt := few(random, 2), few(random, 3), 1+few(random, 3)
				at, is := p.Stop(kind, task, attempt)
				if wantAt, want := plain.stop(kind, task, attempt); at != wantAt || is != want {
					t.Fatalf("Stop(%d, %d, %d) of %s: %d, %t, and not %d, %t", kind, task, attempt, written(l), at, is, wantAt, want)
				}
			} else {
				task, attempt, moment, reader := few(random, 3), 1+few(random, 3), few(random, 3), few(random, 3)
				isDue(t, p, task, attempt, moment, reader, plain.due(task, attempt, moment, reader)...)
			}
			isLeft(t, p, plain.left()...)
		}
	}
}

// What follows: what Stop and Due have told, and Left, are all entries, each once.
func TestEachComesOnce(t *testing.T) {
	random := rand.New(rand.NewSource(167))
	for range 1000 {
		l := randomScript(random, 30)
		p := plan(t, l...)
		times := map[api.Fault]int{}
		for range random.Intn(200) {
			kind, task, attempt := random.Intn(2), random.Intn(3), 1+random.Intn(3)
			if at, is := p.Stop(kind, task, attempt); is {
				times[stop(kind, task, attempt, at)]++
			}
			for _, f := range p.Due(random.Intn(3), 1+random.Intn(3), random.Intn(3), random.Intn(3)) {
				times[f]++
			}
		}
		for _, f := range p.Left() {
			times[f]++
		}
		for _, f := range l {
			if times[f] != 1 {
				t.Fatalf("%s comes %d times", written(f), times[f])
			}
		}
		if len(times) != len(l) {
			t.Fatalf("%d entries have come, and not %d", len(times), len(l))
		}
	}
}

// All of a full plan comes, one behind the other, from any end.
func TestFullPlans(t *testing.T) {
	for _, backwards := range []bool{false, true} {
		l := stops(api.MaxFaults)
		p := plan(t, l...)
		order := slices.Clone(l)
		if backwards {
			slices.Reverse(order)
		}
		for i, f := range order {
			stopsAt(t, p, f.TaskKind, f.Task, f.Attempt, f.At)
			if backwards {
				isLeft(t, p, l[:len(l)-i-1]...)
			} else {
				isLeft(t, p, l[i+1:]...)
			}
		}
	}
}
