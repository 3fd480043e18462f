package array

import (
	"slices"

	"adjoint/api"
	"adjoint/list"
)

// side is how a Dot looks at one of its arrays: the numbers of the dimensions that go together with the other one's, of those that are named nowhere, of those that are summed.
type side struct{ together, free, summed []int }

// sides are how a Dot looks at its two arrays.
func sides(op api.Op, a, b []int) (left, right side, err api.Errno) {
	freeA, okA := others(len(a), op.Lo, op.At)
	freeB, okB := others(len(b), op.Hi, op.Step)
	if !okA || !okB || !slices.Equal(list.These(a, op.Lo), list.These(b, op.Hi)) || !slices.Equal(list.These(a, op.At), list.These(b, op.Step)) {
		return side{}, side{}, api.ErrShape
	}
	return side{op.Lo, freeA, op.At}, side{op.Hi, freeB, op.Step}, api.OK
}

// dotDims are those of what a Dot makes.
func dotDims(op api.Op, a, b []int) ([]int, api.Errno) {
	left, right, err := sides(op, a, b)
	if err != api.OK {
		return nil, err
	}
	return chain(list.These(a, left.together), list.These(a, left.free), list.These(b, right.free)), api.OK
}

// laid are an array's numbers with what is summed lying closest together, so that each sum is one of two stretches.
func (s side) laid(a api.Array) []int64 {
	turn := api.Op{Kind: api.Turn, At: chain(s.together, s.free, s.summed)}
	out := make([]int64, len(a.Data))
	fill(out, lookedAt(turn, a))
	return out
}

// dot puts the sums of products, one behind the other.
func dot(out []int64, op api.Op, a, b api.Array) {
	left, right, _ := sides(op, a.Dims, b.Dims)
	x, y := left.laid(a), right.laid(b)
	long := count(list.These(a.Dims, left.summed))
	rows, columns := count(list.These(a.Dims, left.free)), count(list.These(b.Dims, right.free))
	fill(out, func(i int) int64 {
		row := i / columns
		column := row/rows*columns + i%columns
		return inner(x[row*long:(row+1)*long], y[column*long:(column+1)*long])
	})
}
