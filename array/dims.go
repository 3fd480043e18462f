package array

import (
	"slices"

	"adjoint/api"
	"adjoint/list"
	"adjoint/sight"
	"adjoint/view"
)

// Dims are those of what an operation makes.
func Dims(op api.Op, args [][]int) ([]int, api.Errno) {
	if err := takes(op.Kind, len(args)); err != api.OK {
		return nil, err
	}
	for _, dims := range args {
		if _, err := view.Size(dims); err != api.OK {
			return nil, err
		}
	}
	made, err := shape(op, args)
	if err != api.OK {
		return nil, err
	}
	if _, err := view.Size(made); err != api.OK {
		return nil, err
	}
	return made, api.OK
}

// Weight is what an operation costs.
func Weight(op api.Op, args [][]int) (int, api.Errno) {
	dims, err := Dims(op, args)
	if err != api.OK {
		return 0, err
	}
	made := count(dims)
	weight := made
	for _, arg := range args {
		weight += count(arg)
	}
	switch op.Kind {
	case api.Dot:
		weight += 2 * made * count(list.These(args[0], op.At))
	case api.Join:
		weight += made * len(args)
	}
	return weight, api.OK
}

// shape is what the table says of an operation on dimensions of which nothing is wrong; whether what would be made can be is not asked yet.
func shape(op api.Op, args [][]int) ([]int, api.Errno) {
	switch op.Kind {
	case api.Fill:
		return list.Fresh(op.Dims), api.OK
	case api.Spread, api.Turn, api.Cut, api.Flip:
		v, err := sight.Read(op, args[0])
		return v.Dims, err
	case api.Sum:
		return sumDims(op, args[0])
	case api.Reform:
		return reformDims(op, args[0])
	case api.Pad:
		return padDims(op, args[0])
	case api.Dot:
		return dotDims(op, args[0], args[1])
	case api.Join:
		return joinDims(op, args)
	case api.Take:
		return takeDims(args[0], args[1])
	case api.Put:
		return putDims(op, args[0], args[1])
	}
	return sameDims(args)
}

// sameDims are the dimensions that all have.
func sameDims(args [][]int) ([]int, api.Errno) {
	for _, dims := range args {
		if !slices.Equal(dims, args[0]) {
			return nil, api.ErrShape
		}
	}
	return list.Fresh(args[0]), api.OK
}

// sumDims are dimensions without those that are summed.
func sumDims(op api.Op, dims []int) ([]int, api.Errno) {
	// What may be flipped may be summed.
	if _, err := sight.Read(api.Op{Kind: api.Flip, At: op.At}, dims); err != api.OK {
		return nil, err
	}
	kept, _ := others(len(dims), op.At)
	return list.These(dims, kept), api.OK
}

// reformDims are other dimensions of as many numbers.
func reformDims(op api.Op, dims []int) ([]int, api.Errno) {
	size, err := view.Size(op.Dims)
	if err != api.OK {
		return nil, err
	}
	if size != count(dims) {
		return nil, api.ErrShape
	}
	return list.Fresh(op.Dims), api.OK
}

// padDims are dimensions with noughts around and between.
func padDims(op api.Op, dims []int) ([]int, api.Errno) {
	rank := len(dims)
	if len(op.Lo) != rank || len(op.Hi) != rank || len(op.Step) != rank {
		return nil, api.ErrShape
	}
	within := func(n, least int) bool { return n >= least && n <= api.MaxDim }
	out := make([]int, rank)
	for k, dim := range dims {
		if !within(op.Lo[k], 0) || !within(op.Hi[k], 0) || !within(op.Step[k], 1) {
			return nil, api.ErrRange
		}
		out[k] = op.Lo[k] + op.Hi[k]
		// Where there is no entry, there is nothing between two.
		if dim > 0 {
			out[k] += (dim-1)*op.Step[k] + 1
		}
	}
	return out, api.OK
}

// joinDims are the dimensions of arrays that stand one behind the other.
func joinDims(op api.Op, args [][]int) ([]int, api.Errno) {
	out := list.Fresh(args[0])
	if len(op.At) != 1 || op.At[0] < 0 || op.At[0] >= len(out) {
		return nil, api.ErrShape
	}
	at := op.At[0]
	for _, dims := range args[1:] {
		if len(dims) != len(out) || !slices.Equal(dims[:at], out[:at]) || !slices.Equal(dims[at+1:], out[at+1:]) {
			return nil, api.ErrShape
		}
		out[at] += dims[at]
	}
	return out, api.OK
}

// takeDims are the dimensions of rows of a, by the numbers in b.
func takeDims(a, b []int) ([]int, api.Errno) {
	if len(a) == 0 {
		return nil, api.ErrShape
	}
	return chain(b, a[1:]), api.OK
}

// putDims are the dimensions of sums of rows of a, by the numbers in b.
func putDims(op api.Op, a, b []int) ([]int, api.Errno) {
	if len(op.Dims) != 1 || len(b) > len(a) || !slices.Equal(a[:len(b)], b) {
		return nil, api.ErrShape
	}
	return chain(op.Dims, a[len(b):]), api.OK
}

// count is how many indices there are. Dimensions of which nothing is wrong, or some of them, are few enough that it does not wrap.
func count(dims []int) int {
	many := 1
	for _, dim := range dims {
		many *= dim
	}
	return many
}

// others are the numbers of the dimensions, of so many, that no list names; false: a list names one that there is not, or one is named twice.
func others(rank int, lists ...[]int) ([]int, bool) {
	var named [api.MaxRank]bool
	for _, list := range lists {
		for _, k := range list {
			if k < 0 || k >= rank || named[k] {
				return nil, false
			}
			named[k] = true
		}
	}
	return list.Others(rank, lists...), true
}

// chain is a new list of lists, one behind the other.
func chain(lists ...[]int) []int {
	var out []int
	for _, list := range lists {
		out = append(out, list...)
	}
	return out
}
