package reduce

import (
	"fmt"
	"math"
	"math/rand"
	"testing"

	"winnow/api"
)

// 18.2

// One thing that an attempt may not have, and the error that this is.
type wrong struct {
	what string
	err  api.Errno
	make func(a *attempt)
}

// numbered tells reports of these tasks.
func numbered(tasks ...int) []api.Report {
	var list []api.Report
	for _, task := range tasks {
		list = append(list, api.Report{Task: task, Attempt: 1, Name: fmt.Sprintf("o.m%d.1", task), Length: 24})
	}
	return list
}

// risingTasks tells so many reports, the tasks as they have to be.
func risingTasks(count int) []api.Report {
	var list []api.Report
	for task := range count {
		list = append(list, numbered(task)...)
	}
	return list
}

// wrongs are such things, in the order in which they are asked for; those of one row are asked for at one time.
func wrongs() [][]wrong {
	parts := func(parts int) wrong {
		return wrong{fmt.Sprint("parts ", parts), api.ErrArg, func(a *attempt) { a.job.Parts = parts }}
	}
	task := func(task int) wrong {
		return wrong{fmt.Sprint("task ", task), api.ErrArg, func(a *attempt) { a.task = task }}
	}
	number := func(number int) wrong {
		return wrong{fmt.Sprint("attempt ", number), api.ErrArg, func(a *attempt) { a.number = number }}
	}
	kind := func(kind int) wrong {
		return wrong{fmt.Sprint("kind ", kind), api.ErrJob, func(a *attempt) { a.job.Kind = kind }}
	}
	spills := func(tasks ...int) wrong {
		return wrong{fmt.Sprint("reports of ", tasks), api.ErrSpills, func(a *attempt) { a.spills = numbered(tasks...) }}
	}
	long := func(list []api.Report) wrong {
		return wrong{fmt.Sprint("reports ", len(list)), api.ErrSpills, func(a *attempt) { a.spills = list }}
	}
	return [][]wrong{
		{
			parts(0), parts(-1), parts(65536), parts(65537), parts(math.MinInt), parts(math.MaxInt), parts(1<<32 + 1),
			task(-1), task(-2), task(1), task(2), task(65535), task(math.MinInt), task(math.MaxInt), task(1 << 32),
			number(0), number(-1), number(math.MinInt),
		},
		{kind(-1), kind(5), kind(9), kind(256), kind(math.MinInt), kind(math.MaxInt), kind(1 << 32)},
		{
			spills(1), spills(-1), spills(1, 0), spills(0, 0), spills(0, 2), spills(0, 1, 3), spills(0, 1, 1), spills(1, 1), spills(0, -1),
			spills(0, math.MaxInt), spills(math.MinInt), spills(1, 2), spills(0, 1, 2, 4, 3), spills(1<<32, 1),
			long(risingTasks(257)), long(risingTasks(258)), long(risingTasks(1000)), long(make([]api.Report, 257)),
			long(append(risingTasks(255), numbered(256)...)), long(append(risingTasks(255), numbered(0)...)),
		},
	}
}

func TestEachRefusal(t *testing.T) {
	for _, row := range wrongs() {
		for _, w := range row {
			s, a := example(t)
			w.make(&a)
			a.refuses(t, s, w.err)
			a.stoppedAt(0).refuses(t, s, w.err)
			a.same(t, s)
			a.same(t, nil)
		}
	}
	_, a := example(t)
	a.same(t, nil)
	a.stoppedAt(3).same(t, nil)
	a.spills = nil
	a.same(t, nil)
}

// Of two things that are wrong the one that is asked for first is told; and each ahead of any blame.
func TestFirstRefusal(t *testing.T) {
	rows := wrongs()
	for i, row := range rows {
		for _, first := range row {
			for _, later := range rows[i+1:] {
				for _, second := range later {
					s, a := example(t)
					second.make(&a)
					first.make(&a)
					a.refuses(t, s, first.err)
				}
			}
			s, a := example(t)
			a.out = "W"
			isError(t, "Resize", s.Resize("o.m0.1", -1), api.OK)
			first.make(&a)
			a.refuses(t, s, first.err)
		}
	}
}

// Each place of the reports is looked at.
func TestEachReportsTask(t *testing.T) {
	for place := range 256 {
		s, a := example(t)
		a.spills = risingTasks(256)
		a.spills[place].Task++
		a.refuses(t, s, api.ErrSpills)
		a.spills[place].Task -= 2
		a.refuses(t, s, api.ErrSpills)
	}
}

// The fifth example.
func TestRefusalsOfTheExample(t *testing.T) {
	s, a := example(t)
	b := a
	b.spills = []api.Report{a.spills[1], a.spills[0]}
	b.refuses(t, s, api.ErrSpills)
	b = a
	b.task = 1
	b.refuses(t, s, api.ErrArg)
	b = a
	b.number = 0
	b.refuses(t, s, api.ErrArg)
}

// Just what may be is taken, each number at its edges; what the layer has nothing to do with may be anything.
func TestEdges(t *testing.T) {
	wild := api.Job{Kind: api.JobCount, Parts: 1, Bounds: []string{"z", "a", "b"}, Combine: true, Budget: -1, Fan: 1 << 40, Tries: -7, Shape: api.Shape{Block: -1, Restart: 99, Bits: 99}}
	for _, c := range []struct {
		parts, task, number int
	}{
		{1, 0, 1}, {2, 0, 1}, {2, 1, 1}, {65535, 0, 1}, {65535, 65534, 1}, {1, 0, 2}, {1, 0, 9999}, {1, 0, math.MaxInt}, {65534, 65533, math.MaxInt},
	} {
		for _, kind := range five() {
			sheets := []sheet{{parts: c.parts, shape: smallShape()}, {parts: c.parts, shape: smallShape()}}
			for i := range sheets {
				for part := max(0, c.task-1); part < min(c.parts, c.task+2); part++ {
					sheets[i].records = append(sheets[i].records, rec(part, "k", fmt.Sprint(10*part+i)), rec(part, "l", "7"))
				}
			}
			s, a := attemptOver(t, sheets, c.task)
			a.job, a.number = wild, c.number
			a.job.Kind, a.job.Parts = kind, c.parts
			a.writesPlain(t, s, sheets)
		}
	}
}

// What reports tell beside their name and length, and their task, is of no account.
func TestWhatReportsTellBeside(t *testing.T) {
	for _, number := range []int{0, -1, 7, math.MinInt, math.MaxInt} {
		s, a := example(t)
		for i := range a.spills {
			r := &a.spills[i]
			r.Attempt, r.Records, r.Dropped = number, int64(number), -5
		}
		a.writes(t, s, "a\t2\nb\t2\n", 2)
	}
}

// Any numbers at all: the answer is the one that the document says.
func TestAnyNumbers(t *testing.T) {
	random := rand.New(rand.NewSource(182))
	pick := func(list ...int) int { return list[random.Intn(len(list))] }
	ends := map[api.Errno]int{}
	for range 2000 {
		s, a := example(t)
		a.job.Kind, a.job.Parts = pick(0, 1, 2, 3, 4, 4, 5, -1), pick(1, 1, 1, 2, 65535, 0, 65536)
		a.task, a.number = pick(0, 0, 0, 1, -1), pick(1, 1, 2, 0)
		for i := range a.spills {
			a.spills[i].Task = pick(i, i, i, i, 0, 1, -1)
		}
		a.spills = a.spills[:pick(0, 1, 2, 2)]
		_, err := a.same(t, s)
		ends[err]++
	}
	for _, err := range []api.Errno{api.OK, api.ErrArg, api.ErrJob, api.ErrSpills} {
		if ends[err] < 50 {
			t.Errorf("too few of a kind: %v", ends)
		}
	}
}
