package ledger

import (
	"slices"

	"winnow/api"
)

// Changes of a task.
const (
	begin = iota
	end
	die
	wait // a reduce task, for a map task
	redo // a map task that was done
)

// after tells, change by change, which state it leaves, by the state that it asks for.
var after = [...][api.TaskDone + 1]int{
	begin: {api.TaskReady: api.TaskRunning, api.TaskRunning: none, api.TaskHeld: api.TaskRunning, api.TaskDone: none},
	end:   {api.TaskReady: none, api.TaskRunning: api.TaskDone, api.TaskHeld: none, api.TaskDone: none},
	die:   {api.TaskReady: none, api.TaskRunning: api.TaskReady, api.TaskHeld: none, api.TaskDone: none},
	wait:  {api.TaskReady: none, api.TaskRunning: api.TaskHeld, api.TaskHeld: none, api.TaskDone: none},
	redo:  {api.TaskReady: none, api.TaskRunning: none, api.TaskHeld: none, api.TaskDone: api.TaskReady},
}

// isAllowed tells whether a task is in a state that a change asks for.
func isAllowed(change int, s api.TaskState) bool {
	return after[change][s.State] != none
}

// Begin begins an attempt, or goes on with a held one, and tells its number and whether it is new.
func Begin(b api.Book, t api.TaskId) (api.Book, int, bool, api.Errno) {
	if err := refuse(b, t); err != api.OK {
		return api.Book{}, 0, false, err
	}
	if !isOpen(b, t.Kind) {
		return api.Book{}, 0, false, api.ErrState
	}
	attempt, isNew := 0, false
	b, err := changed(b, t, begin, func(s *api.TaskState) {
		if s.State == api.TaskReady {
			s.Attempt++
			isNew = true
		}
		attempt = s.Attempt
	})
	return b, attempt, isNew, err
}

// Done ends a running attempt well.
func Done(b api.Book, t api.TaskId) (api.Book, api.Errno) {
	if err := refuse(b, t); err != api.OK {
		return api.Book{}, err
	}
	return changed(b, t, end, func(*api.TaskState) {})
}

// Died ends a running attempt, and charges the task.
func Died(b api.Book, t api.TaskId) (api.Book, api.Errno) {
	if err := refuse(b, t); err != api.OK {
		return api.Book{}, err
	}
	return changed(b, t, die, func(s *api.TaskState) { s.Charged++ })
}

// Blame lets a running reduce task wait for a map task, and tells whether that was charged.
func Blame(b api.Book, reduce, task, attempt int) (api.Book, bool, api.Errno) {
	reader := api.TaskId{Kind: api.TaskReduce, Task: reduce}
	blamed := api.TaskId{Kind: api.TaskMap, Task: task}
	if err := refuse(b, reader, blamed); err != api.OK {
		return api.Book{}, false, err
	}
	s := b.Maps[task]
	if !isWithin(attempt, 1, s.Attempt) {
		return api.Book{}, false, api.ErrArg
	}
	b, err := changed(b, reader, wait, func(*api.TaskState) {})
	if err != api.OK {
		return api.Book{}, false, err
	}
	// An attempt that is not the last one, or whose task is not done any more, was blamed by somebody else already.
	if attempt != s.Attempt || !isAllowed(redo, s) {
		return b, false, api.OK
	}
	b, err = changed(b, blamed, redo, func(s *api.TaskState) { s.Charged++ })
	return b, err == api.OK, err
}

// refuse tells why nothing can be done with some tasks of a book.
func refuse(b api.Book, tasks ...api.TaskId) api.Errno {
	if err := Check(b); err != api.OK {
		return err
	}
	for _, t := range tasks {
		if !isWithin(t.Task, 0, len(listOf(b, t.Kind))-1) {
			return api.ErrTask
		}
	}
	return api.OK
}

// listOf tells the tasks of a kind; of a kind that is none there are none.
func listOf(b api.Book, kind int) []api.TaskState {
	switch kind {
	case api.TaskMap:
		return b.Maps
	case api.TaskReduce:
		return b.Reduces
	}
	return nil
}

// changed tells a copy of a book with a task changed. The closure is handed the task while it is still in the state that the change asks for.
func changed(b api.Book, t api.TaskId, change int, act func(s *api.TaskState)) (api.Book, api.Errno) {
	if b.Failed || !isAllowed(change, listOf(b, t.Kind)[t.Task]) {
		return api.Book{}, api.ErrState
	}
	b.Maps, b.Reduces = slices.Clone(b.Maps), slices.Clone(b.Reduces)
	s := &listOf(b, t.Kind)[t.Task]
	act(s)
	s.State = after[change][s.State]
	b.Failed = s.Charged == b.Tries
	return b, api.OK
}
