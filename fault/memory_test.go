package fault

import (
	"math/rand"
	"runtime"
	"slices"
	"sync"
	"testing"

	"winnow/api"
)

// 16.8

// scribbled writes into all of a list, and into the room behind it.
func scribbled[T any](list []T, mark T) {
	list = append(list, mark)
	list = list[:cap(list)]
	for i := range list {
		list[i] = mark
	}
}

// roomy tells a list with room behind its end, and all of it.
func roomy[T any](list []T, room ...T) (handed, whole []T) {
	whole = append(slices.Clone(list), room...)
	return whole[:len(list)], whole
}

func scribble() api.Fault {
	return api.Fault{Kind: 9, TaskKind: 9, Task: 9, Attempt: 99, Moment: 9, Reader: 9, At: -9, Mask: 8}
}

// Entries that are handed in are not changed, with the room behind them, whether they may be or not.
func TestEntriesAreNotChanged(t *testing.T) {
	random := rand.New(rand.NewSource(168))
	for range 2000 {
		handed, whole := roomy(randomEntries(random, 8), scribble(), stop(0, 1, 1, 1))
		before := slices.Clone(whole)
		Check(handed)
		b, err := Encode(handed)
		p, _ := New(handed)
		isSame(t, "the entries and their room", whole, before)
		p.Stop(0, 1, 1)
		p.Due(1, 1, 0, 0)
		isSame(t, "the entries behind Stop and Due", whole, before)
		if err != api.OK {
			continue
		}
		clear(whole)
		isSame(t, "Encode, behind a change of the entries", b, plainEncode(before[:len(handed)]))
	}
}

// A plan keeps nothing of the list that it was made of.
func TestPlansKeepNothing(t *testing.T) {
	l := some()
	handed, whole := roomy(l, scribble())
	p := plan(t, handed...)
	p2, err := New(handed)
	isError(t, "New", err, api.OK)
	for i := range whole {
		whole[i] = scribble()
	}
	isLeft(t, p2, l...)
	stopsAt(t, p2, 1, 5, 1, 300)
	isDue(t, p2, 3, 4, api.MomentRead, 9, l[4])
	isLeft(t, p2, l[0], l[2], l[3], l[5], l[6], l[7])
	isLeft(t, p, l...)
	for i, f := range whole {
		if f != scribble() {
			t.Fatalf("the list that was handed in has become another one at %d", i)
		}
	}
}

// Lists that a plan has answered may be written into: no later answer shows that.
func TestPlanAnswersAreNew(t *testing.T) {
	random := rand.New(rand.NewSource(1681))
	for range 1000 {
		l := randomScript(random, 30)
		p, plain := plan(t, l...), newPlainPlan(l)
		for range 20 {
			left := p.Left()
			isSame(t, "Left", left, plain.left())
			scribbled(left, scribble())
			isLeft(t, p, plain.left()...)
			task, attempt, moment, reader := random.Intn(3), 1+random.Intn(3), random.Intn(3), random.Intn(3)
			due := p.Due(task, attempt, moment, reader)
			isSame(t, "Due", due, plain.due(task, attempt, moment, reader))
			scribbled(due, scribble())
			isLeft(t, p, plain.left()...)
		}
	}
}

// An answer stays as it is, whatever is done to the plan behind it.
func TestAnswersOfPlansStay(t *testing.T) {
	l := stops(20)
	l = append(l, some()[2:]...)
	p := plan(t, l...)
	first := p.Left()
	due := p.Due(1, 2, api.MomentOpen, 0)
	second := p.Left()
	for _, f := range l {
		p.Stop(f.TaskKind, f.Task, f.Attempt)
		p.Due(f.Task, f.Attempt, f.Moment, f.Reader)
	}
	isLeft(t, p)
	isSame(t, "the first answer", first, l)
	isSame(t, "what was due", due, []api.Fault{l[20], l[23]})
	isSame(t, "the second answer", second, slices.Concat(l[:20], l[21:23], l[24:]))
}

func TestPlansAreApart(t *testing.T) {
	p, q := plan(t, some()...), plan(t, some()...)
	stopsAt(t, p, 1, 5, 1, 300)
	isLeft(t, q, some()...)
	stopsAt(t, q, 1, 5, 1, 300)
	goesOn(t, p, 1, 5, 1)
}

func TestBytesAreNotChanged(t *testing.T) {
	random := rand.New(rand.NewSource(1682))
	for range 2000 {
		l := randomScript(random, 6)
		handed, whole := roomy(plainEncode(l), 1, 2, 3)
		before := slices.Clone(whole)
		got, err := Decode(handed)
		isError(t, "Decode", err, api.OK)
		isSame(t, "the bytes and their room", whole, before)
		clear(whole)
		isSame(t, "Decode, behind a change of the bytes", got, l)
		scribbled(got, scribble())
		isSame(t, "the bytes, behind a change of the entries", whole, make([]byte, len(whole)))
		copy(whole, before)
		whole[random.Intn(len(whole))]++
		before = slices.Clone(whole)
		Decode(handed)
		isSame(t, "other bytes and their room", whole, before)
	}
}

func TestEncodedIsNew(t *testing.T) {
	l := some()
	for range 3 {
		b, err := Encode(l)
		isError(t, "Encode", err, api.OK)
		isSame(t, "Encode", b, plainEncode(some()))
		scribbled(b, 0x77)
		none, _ := Encode(nil)
		isSame(t, "Encode of none", none, []byte{0})
		scribbled(none, 0x77)
		isSame(t, "the entries", l, some())
	}
}

// A damaged file is a copy, whether anything was changed or not.
func TestDamageIsACopy(t *testing.T) {
	random := rand.New(rand.NewSource(1683))
	faults := []api.Fault{{}, stop(0, 0, 1, 0), turn(5, 3), turn(5, 2), resize(-1), resize(-100), resize(3), resize(4096), resize(0), resize(5000)}
	for range 300 {
		for _, f := range faults {
			file, whole := roomy(randomBytes(random, 20), 0xaa, 0xbb, 0xcc, 0xdd, 0xee)
			before := slices.Clone(whole)
			want := slices.Clone(plainDamage(before[:len(file)], f))
			got := Damage(file, f)
			isSame(t, "the file and its room", whole, before)
			clear(whole)
			isSame(t, "Damage, behind a change of the file", got, want)
			scribbled(got, 0x77)
			isSame(t, "the file, behind a change of the damaged one", whole, make([]byte, len(whole)))
		}
	}
}

// What stands behind a file's end is not what it grows by.
func TestRoomIsNotRead(t *testing.T) {
	file, whole := roomy([]byte("abc"), 'x', 'y', 'z')
	isSame(t, "grown", Damage(file, resize(2)), []byte("abc\x00\x00"))
	isSame(t, "turned", Damage(file, turn(23, 3)), []byte("ab\xe3"))
	isSame(t, "all", whole, []byte("abcxyz"))
	entries, _ := roomy(some()[:2], scribble(), scribble())
	isError(t, "Check", Check(entries), api.OK)
	b, _ := roomy(plainEncode(some()), 1, 2, 3)
	decodes(t, b, some())
}

// Of what a call was given nothing is left behind.
func TestNothingIsKept(t *testing.T) {
	l := []api.Fault{stop(0, 3, 1, 1), stop(0, 3, 2, 1)}
	checks(t, api.OK, l...)
	checks(t, api.OK, l...)
	l[1].Attempt = 1
	checks(t, api.ErrFault, l...)
	l[0].Attempt = 2
	checks(t, api.OK, l...)
	p := plan(t, l...)
	stopsAt(t, p, 0, 3, 1, 1)
	isLeft(t, plan(t, l...), l...)
}

// live tells how many bytes are held.
func live() int64 {
	runtime.GC()
	runtime.GC()
	var m runtime.MemStats
	runtime.ReadMemStats(&m)
	return int64(m.HeapAlloc)
}

// A plan whose entries have come holds on to none of them, and a short file not to the long one that it was.
func TestLittleIsKept(t *testing.T) {
	before := live()
	var plans []*Plan
	var files [][]byte
	for range 50 {
		p := plan(t, stops(api.MaxFaults)...)
		for _, f := range p.Left() {
			p.Stop(f.TaskKind, f.Task, f.Attempt)
		}
		plans = append(plans, p)
		files = append(files, Damage(make([]byte, 1<<16), resize(-1<<16+1)))
	}
	if grown := live() - before; grown > 500<<10 {
		t.Errorf("with %d plans and files %d bytes are kept", len(plans)+len(files), grown)
	}
	runtime.KeepAlive(plans)
	runtime.KeepAlive(files)
}

func TestManyAtOneTime(t *testing.T) {
	random := rand.New(rand.NewSource(1684))
	l, file := randomScript(random, 30), randomBytes(random, 60)
	b := plainEncode(l)
	var all sync.WaitGroup
	for worker := range 8 {
		all.Add(1)
		go func() {
			defer all.Done()
			for round := range 100 {
				f := l[(worker+round)%len(l)]
				got, err := Encode(l)
				back, backErr := Decode(b)
				p, newErr := New(l)
				p.Stop(f.TaskKind, f.Task, f.Attempt)
				p.Due(f.Task, f.Attempt, f.Moment, f.Reader)
				if err != api.OK || backErr != api.OK || newErr != api.OK || !slices.Equal(got, b) || !slices.Equal(back, l) || len(p.Left()) >= len(l) || !slices.Equal(Damage(file, f), plainDamage(file, f)) {
					t.Errorf("the worker %d was told something else", worker)
				}
			}
		}()
	}
	all.Wait()
}
