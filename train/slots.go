package train

import (
	"slices"

	"adjoint/api"
)

// nowhere: no slot says anything.
const nowhere = -1

// slots are the two of a disk, in each of which a state can lie: the head, the weights, the momentum. What lies behind both is someone else's.
type slots struct {
	disk    api.Disk
	entries int // of the weights
	newest  int // the slot in which the newest state lies, or nowhere
}

// fit tells whether the disk has room for two slots; one that is not there has none.
func (s *slots) fit() bool { return s.disk != nil && s.disk.Size() >= s.at(2) }

// at is the word at which a slot begins.
func (s *slots) at(slot int) int { return slot * (2*s.entries + 1) }

// find is the newest state on the disk; the one that begins with these weights, if no slot says anything.
func (s *slots) find(start []int64) state {
	s.newest = nowhere
	head := int64(0)
	for slot := range 2 {
		other := s.disk.Get(s.at(slot))
		if other > head && other <= api.MaxSteps+1 {
			s.newest, head = slot, other
		}
	}
	if s.newest == nowhere {
		return begun(start)
	}
	from := s.at(s.newest) + 1
	return state{weights: s.read(from), momentum: s.read(from + s.entries), steps: int(head) - 1}
}

// read are as many words as the weights have entries.
func (s *slots) read(from int) []int64 {
	out := make([]int64, s.entries)
	for i := range out {
		out[i] = s.disk.Get(from + i)
	}
	return out
}

// save lays a state into the slot in which the newest one does not lie; false, if the power goes.
func (s *slots) save(now state) bool {
	slot := 0
	if s.newest == 0 {
		slot = 1
	}
	at := s.at(slot)
	// Till all of the state lies there the slot says nothing: so whenever the power goes, the other one has the newest.
	for i, word := range slices.Concat([]int64{0}, now.weights, now.momentum) {
		if !s.disk.Put(at+i, word) {
			return false
		}
	}
	if !s.disk.Put(at, int64(now.steps)+1) {
		return false
	}
	s.newest = slot
	return true
}
