package fault

import (
	"slices"

	"winnow/api"
)

// Plan is faults that are still to come.
type Plan struct {
	left []api.Fault
}

// New makes one.
func New(l []api.Fault) (*Plan, api.Errno) {
	if err := Check(l); err != api.OK {
		return nil, err
	}
	return &Plan{left: slices.Clone(l)}, api.OK
}

// Stop tells at which byte an attempt stops, and takes that fault away.
func (p *Plan) Stop(kind, task, attempt int) (int64, bool) {
	asked := place{api.FaultStop, kind, task, attempt}
	taken := p.take(func(f api.Fault) bool { return placeOf(f) == asked })
	if len(taken) == 0 {
		return 0, false
	}
	// There is no second one: New takes no two stops of one place.
	return taken[0].At, true
}

// instant is when damage comes, and to which spill.
type instant struct {
	task, attempt, moment, reader int
}

// Due tells the damage of a map attempt's spill at a moment, and takes it away.
func (p *Plan) Due(task, attempt, moment, reader int) []api.Fault {
	if moment != api.MomentRead {
		// Damage of the other moments has the reader 0, whoever asks.
		reader = 0
	}
	asked := instant{task, attempt, moment, reader}
	return p.take(func(f api.Fault) bool {
		return f.Kind != api.FaultStop && instant{f.Task, f.Attempt, f.Moment, f.Reader} == asked
	})
}

// take tells those of the faults that are wanted, and keeps the others.
func (p *Plan) take(isWanted func(f api.Fault) bool) []api.Fault {
	if p == nil {
		return nil
	}
	var taken, left []api.Fault
	for _, f := range p.left {
		if isWanted(f) {
			taken = append(taken, f)
		} else {
			left = append(left, f)
		}
	}
	p.left = left
	return taken
}

// Left tells what is still to come.
func (p *Plan) Left() []api.Fault {
	if p == nil {
		return nil
	}
	return slices.Clone(p.left)
}
