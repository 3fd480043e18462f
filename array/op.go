package array

import (
	"slices"

	"adjoint/api"
	"adjoint/list"
)

// Plain is an operation without what means nothing.
func Plain(op api.Op) api.Op {
	out := meant(op)
	out.Dims, out.At = list.Fresh(out.Dims), list.Fresh(out.At)
	out.Lo, out.Hi, out.Step = list.Fresh(out.Lo), list.Fresh(out.Hi), list.Fresh(out.Step)
	return out
}

// Same tells whether two operations are one.
func Same(a, b api.Op) bool {
	a, b = meant(a), meant(b)
	return a.Kind == b.Kind && a.Value == b.Value &&
		slices.Equal(a.Dims, b.Dims) && slices.Equal(a.At, b.At) &&
		slices.Equal(a.Lo, b.Lo) && slices.Equal(a.Hi, b.Hi) && slices.Equal(a.Step, b.Step)
}

// meant is an operation with just those fields that its kind names. It shares its lists: they are only looked at.
func meant(op api.Op) api.Op {
	out := api.Op{Kind: op.Kind}
	switch op.Kind {
	case api.Fill:
		out.Dims, out.Value = op.Dims, op.Value
	case api.Param, api.Spread:
		out.Dims, out.At = op.Dims, op.At
	case api.Reform, api.Put:
		out.Dims = op.Dims
	case api.Sum, api.Turn, api.Flip, api.Join:
		out.At = op.At
	case api.Cut, api.Pad:
		out.Lo, out.Hi, out.Step = op.Lo, op.Hi, op.Step
	case api.Dot:
		out.At, out.Lo, out.Hi, out.Step = op.At, op.Lo, op.Hi, op.Step
	}
	return out
}

// takes is what is wrong with a kind, and with so many arguments of it.
func takes(kind, many int) api.Errno {
	right := 0
	switch kind {
	case api.Fill:
	case api.Spread, api.Sum, api.Turn, api.Reform, api.Cut, api.Pad, api.Flip:
		right = 1
	case api.Add, api.Sub, api.Mul, api.Max, api.Less, api.Dot, api.Take, api.Put:
		right = 2
	case api.Pick:
		right = 3
	case api.Join:
		right = max(many, 1)
	default:
		return api.ErrKind
	}
	if many != right {
		return api.ErrMany
	}
	return api.OK
}
