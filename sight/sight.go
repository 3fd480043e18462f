// Package sight: by which views operations look at arrays.
package sight

import (
	"adjoint/api"
	"adjoint/list"
	"adjoint/view"
)

// Read is the view of an array, of whose dimensions nothing is wrong, that a Spread, Turn, Cut or Flip makes an array of.
func Read(op api.Op, dims []int) (api.View, api.Errno) {
	v, _ := view.Whole(dims)
	switch op.Kind {
	case api.Spread:
		return view.Spread(v, op.Dims, op.At)
	case api.Turn:
		return view.Turn(v, op.At)
	case api.Cut:
		return view.Cut(v, op.Lo, op.Hi, op.Step)
	}
	return view.Flip(v, op.At)
}

// Landing is the view, of what a Sum or Pad makes, that tells where the entries of its argument go; the operation must fit.
func Landing(op api.Op, from, made []int) api.View {
	v, _ := view.Whole(made)
	if op.Kind == api.Sum {
		v, _ = view.Spread(v, from, list.Others(len(from), op.At))
		return v
	}
	end := list.Fresh(made)
	for k, behind := range op.Hi {
		end[k] -= behind
	}
	v, _ = view.Cut(v, op.Lo, end, op.Step)
	return v
}
