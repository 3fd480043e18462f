package replay

import (
	"slices"

	"adjoint/api"
	"adjoint/array"
	"adjoint/graph"
	"adjoint/list"
	"adjoint/slope"
)

// Gradient is what a state is told by u, which is told to the state after n steps.
func Gradient(step api.Graph, n, slots int, x, u api.Array) (api.Array, api.Errno) {
	dims, err := stateDims(step)
	if err != api.OK {
		return api.Array{}, err
	}
	reverse, err := slope.Reverse(step)
	if err != api.OK {
		return api.Array{}, err
	}
	for _, a := range []api.Array{x, u} {
		if err := array.Wrong(a); err != api.OK {
			return api.Array{}, err
		}
		if !slices.Equal(a.Dims, dims) {
			return api.Array{}, api.ErrShape
		}
	}
	// Of a right graph and arguments that fit nothing is wrong.
	told := api.Array{Dims: list.Fresh(u.Dims), Data: list.Fresh(u.Data)}
	ahead := func(state api.Array) api.Array {
		given, _ := graph.Eval(step, []api.Array{state})
		return given[0]
	}
	back := func(state api.Array) {
		given, _ := graph.Eval(reverse, []api.Array{state, told})
		told = given[0]
	}
	if err := Run(n, slots, x, ahead, back); err != api.OK {
		return api.Array{}, err
	}
	return told, api.OK
}

// stateDims are the dimensions of the states that a step leads from one to the next.
func stateDims(step api.Graph) ([]int, api.Errno) {
	dims, err := graph.Dims(step)
	if err != api.OK {
		return nil, err
	}
	if graph.Params(step) != 1 || len(step.Outs) != 1 {
		return nil, api.ErrMany
	}
	if !slices.Equal(dims[0], dims[step.Outs[0]]) {
		return nil, api.ErrShape
	}
	return dims[0], api.OK
}
