package replay

import (
	"slices"

	"adjoint/api"
)

// empty is what a slot has that keeps no state.
const empty = -1

// play is what stands in a play of a chain.
type play struct {
	steps int   // of the whole chain
	now   int   // the current state
	left  int   // how many steps are left
	slots []int // the state in each, or empty
	cost  int   // how many steps ahead there were
}

func begun(n, slots int) *play {
	return &play{steps: n, left: n, slots: slices.Repeat([]int{empty}, slots)}
}

// do makes a move, unless it cannot be made now.
func (p *play) do(m api.Move) api.Errno {
	switch m.Do {
	case api.MoveAhead:
		return p.ahead()
	case api.MoveKeep:
		return p.keep(m.N)
	case api.MoveLoad:
		return p.load(m.N)
	case api.MoveBack:
		return p.back()
	}
	return api.ErrKind
}

func (p *play) ahead() api.Errno {
	if p.now == p.steps {
		return api.ErrState
	}
	p.now++
	p.cost++
	return api.OK
}

func (p *play) keep(slot int) api.Errno {
	if !p.has(slot) {
		return api.ErrRange
	}
	p.slots[slot] = p.now
	return api.OK
}

func (p *play) load(slot int) api.Errno {
	if !p.has(slot) {
		return api.ErrRange
	}
	if p.slots[slot] == empty {
		return api.ErrNone
	}
	p.now = p.slots[slot]
	return api.OK
}

func (p *play) back() api.Errno {
	if p.now != p.left-1 {
		return api.ErrState
	}
	p.left--
	return api.OK
}

// has tells whether there is such a slot.
func (p *play) has(slot int) bool { return slot >= 0 && slot < len(p.slots) }
