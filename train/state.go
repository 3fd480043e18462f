package train

import "adjoint/list"

// state is what was learned so far.
type state struct {
	weights, momentum []int64
	steps             int // that were done
}

// begun is a state ahead of the first step.
func begun(start []int64) state {
	return state{weights: list.Fresh(start), momentum: make([]int64, len(start))}
}

// learn does a step in which the weights are told this.
func (s *state) learn(told []int64, keep, rate int64) {
	for i, word := range told {
		s.momentum[i] = keep*s.momentum[i] + word
		s.weights[i] -= rate * s.momentum[i]
	}
	s.steps++
}
