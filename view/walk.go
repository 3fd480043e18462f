package view

import (
	"iter"
	"slices"

	"adjoint/api"
	"adjoint/list"
)

// lastFirst goes through dimensions, from the last one on, and tells of each how many indices those behind it have: so much further, in the order of indices, is the next one along it.
func lastFirst(dims []int) iter.Seq2[int, int] {
	return func(yield func(k, behind int) bool) {
		behind := 1
		for k := len(dims) - 1; k >= 0; k-- {
			if !yield(k, behind) {
				return
			}
			behind *= dims[k]
		}
	}
}

// beyond tells whether a view begins too far off, or has a step that goes too far.
func beyond(v api.View) bool {
	far := func(n int) bool { return n < -api.MaxReach || n > api.MaxReach }
	return far(v.Start) || slices.ContainsFunc(v.Steps, far)
}

// blank is a view with these dimensions, whose steps are all 0.
func blank(start int, dims []int) api.View {
	return api.View{Start: start, Dims: list.Fresh(dims), Steps: make([]int, len(dims))}
}
