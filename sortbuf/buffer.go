package sortbuf

import "winnow/api"

// records are some in the order of their adding, and what they cost.
type records struct {
	list []api.Record
	cost int
}

func (r *records) count() int {
	return len(r.list)
}

func (r *records) keep(one api.Record) {
	r.list = append(r.list, owned(one))
	r.cost += Cost(one)
}

// Buffer gathers records.
type Buffer struct {
	records
	budget int
}

// New makes one.
func New(budget int) (*Buffer, api.Errno) {
	if budget < api.MinBudget || budget > api.MaxBudget {
		return nil, api.ErrArg
	}
	return &Buffer{budget: budget}, api.OK
}

// Add adds a record, if there is room.
func (b *Buffer) Add(r api.Record) api.Errno {
	if b == nil {
		return api.ErrNil
	}
	if b.count() > 0 && b.cost+Cost(r) > b.budget {
		return api.ErrFull
	}
	b.keep(r)
	return api.OK
}

// Take tells all, sorted, and begins anew.
func (b *Buffer) Take() []api.Record {
	if b == nil {
		return nil
	}
	taken := b.list
	b.records = records{}
	return sortBetween(taken, make([]api.Record, len(taken)), Compare)
}

// Len tells how many there are.
func (b *Buffer) Len() int {
	if b == nil {
		return 0
	}
	return b.count()
}

// Used tells what they cost.
func (b *Buffer) Used() int {
	if b == nil {
		return 0
	}
	return b.cost
}
