package array_test

import (
	"slices"
	"testing"

	"adjoint/api"
)

// entry is the entry of an array at an index.
func entry(a api.Array, at []int) int64 {
	place := 0
	for k, i := range at {
		place = place*a.Dims[k] + i
	}
	return a.Data[place]
}

// has tells whether these numbers are an index.
func has(dims, at []int) bool {
	for k, i := range at {
		if i < 0 || i >= dims[k] {
			return false
		}
	}
	return true
}

// only are the numbers of a list at these places.
func only(list, at []int) []int {
	var out []int
	for _, k := range at {
		out = append(out, list[k])
	}
	return out
}

// without are the numbers from 0 on below n that are not in a list.
func without(n int, list []int) []int {
	var out []int
	for k := range n {
		if !slices.Contains(list, k) {
			out = append(out, k)
		}
	}
	return out
}

// told is what the table says, word by word, that the entry at an index is.
func told(op api.Op, args []api.Array, at []int) int64 {
	switch op.Kind {
	case api.Sum:
		return toldSum(op, args[0], at)
	case api.Dot:
		return toldDot(op, args[0], args[1], at)
	case api.Join:
		return toldJoin(op, args, at)
	case api.Take:
		rank := len(args[1].Dims)
		row := entry(args[1], at[:rank])
		if row < 0 || row >= int64(args[0].Dims[0]) {
			return 0
		}
		return entry(args[0], append(l(int(row)), at[rank:]...))
	case api.Put:
		sum, rank := int64(0), len(args[1].Dims)
		for _, from := range indices(args[0].Dims) {
			if entry(args[1], from[:rank]) == int64(at[0]) && slices.Equal(from[rank:], at[1:]) {
				sum += entry(args[0], from)
			}
		}
		return sum
	}
	return toldOne(op, args[0], at)
}

// toldOne is the same of what takes one array and moves its entries.
func toldOne(op api.Op, a api.Array, at []int) int64 {
	from := slices.Clone(at)
	switch op.Kind {
	case api.Spread:
		from = only(at, op.At)
	case api.Turn:
		for k, p := range op.At {
			from[p] = at[k]
		}
	case api.Flip:
		for _, k := range op.At {
			from[k] = a.Dims[k] - 1 - at[k]
		}
	case api.Cut:
		for k := range at {
			from[k] = op.Lo[k] + at[k]*op.Step[k]
		}
	case api.Pad:
		for k := range at {
			n := at[k] - op.Lo[k]
			from[k] = n / op.Step[k]
			if n%op.Step[k] != 0 {
				return 0
			}
		}
		if !has(a.Dims, from) {
			return 0
		}
	}
	return entry(a, from)
}

func toldSum(op api.Op, a api.Array, at []int) int64 {
	sum := int64(0)
	for _, from := range indices(a.Dims) {
		if slices.Equal(only(from, without(len(a.Dims), op.At)), at) {
			sum += entry(a, from)
		}
	}
	return sum
}

func toldDot(op api.Op, a, b api.Array, at []int) int64 {
	freeA := without(len(a.Dims), append(slices.Clone(op.Lo), op.At...))
	freeB := without(len(b.Dims), append(slices.Clone(op.Hi), op.Step...))
	sum := int64(0)
	for _, i := range indices(a.Dims) {
		for _, j := range indices(b.Dims) {
			here := append(append(only(i, op.Lo), only(i, freeA)...), only(j, freeB)...)
			if slices.Equal(here, at) && slices.Equal(only(i, op.Lo), only(j, op.Hi)) && slices.Equal(only(i, op.At), only(j, op.Step)) {
				sum += entry(a, i) * entry(b, j)
			}
		}
	}
	return sum
}

func toldJoin(op api.Op, args []api.Array, at []int) int64 {
	at = slices.Clone(at)
	for _, a := range args {
		if has(a.Dims, at) {
			return entry(a, at)
		}
		at[op.At[0]] -= a.Dims[op.At[0]]
	}
	panic("no array has it")
}

// byWords is what the table says an operation makes, with these dimensions.
func byWords(op api.Op, dims []int, args []api.Array) api.Array {
	out := api.Array{Dims: dims}
	for _, at := range indices(dims) {
		out.Data = append(out.Data, told(op, args, at))
	}
	return out
}

// perms are all orders of the numbers below n.
func perms(n int) [][]int {
	all := [][]int{{}}
	for k := range n {
		var longer [][]int
		for _, list := range all {
			for i := range k + 1 {
				longer = append(longer, slices.Insert(slices.Clone(list), i, k))
			}
		}
		all = longer
	}
	return all
}

// subsets are all rising lists of numbers below n.
func subsets(n int) [][]int {
	var all [][]int
	for bits := range 1 << n {
		var list []int
		for k := range n {
			if bits>>k&1 == 1 {
				list = append(list, k)
			}
		}
		all = append(all, list)
	}
	return all
}

// shapes are some dimensions, up to three of them.
func shapes() [][]int {
	return lists(nil, l(0), l(1), l(3), l(2, 3), l(3, 0), l(0, 2), l(1, 4), l(2, 3, 4), l(3, 1, 2), l(2, 0, 3))
}

func TestA4TurnFlipSumByWords(t *testing.T) {
	for _, dims := range shapes() {
		a := from(-3, dims...)
		for _, perm := range perms(len(dims)) {
			op := api.Op{Kind: api.Turn, At: perm}
			makes(t, op, byWords(op, only(dims, perm), []api.Array{a}), a)
		}
		for _, at := range subsets(len(dims)) {
			op := api.Op{Kind: api.Flip, At: at}
			makes(t, op, byWords(op, dims, []api.Array{a}), a)
			op = api.Op{Kind: api.Sum, At: at}
			makes(t, op, byWords(op, only(dims, without(len(dims), at)), []api.Array{a}), a)
		}
	}
}

func TestA4SpreadByWords(t *testing.T) {
	for _, dims := range lists(nil, l(0), l(2), l(3, 2, 4), l(2, 0, 3), l(1, 2, 1, 3)) {
		for _, at := range subsets(len(dims)) {
			a := from(7, only(dims, at)...)
			op := api.Op{Kind: api.Spread, Dims: dims, At: at}
			makes(t, op, byWords(op, dims, []api.Array{a}), a)
		}
	}
}

func TestA4CutAndPadByWords(t *testing.T) {
	for _, dims := range lists(l(0), l(1), l(4), l(2, 3), l(0, 2), l(3, 0), l(2, 1, 3)) {
		a := from(5, dims...)
		for n := range 40 {
			cut, pad := api.Op{Kind: api.Cut}, api.Op{Kind: api.Pad}
			var cutDims, padDims []int
			for k, dim := range dims {
				lo := (n + k) % (dim + 1)
				hi := lo + (n/3+k)%(dim+1-lo)
				step := 1 + (n/2+k)%3
				cut.Lo, cut.Hi, cut.Step = append(cut.Lo, lo), append(cut.Hi, hi), append(cut.Step, step)
				long := 0
				for i := lo; i < hi; i += step {
					long++
				}
				cutDims = append(cutDims, long)
				lo, hi = (n+2*k)%3, (n/3+k)%4
				pad.Lo, pad.Hi, pad.Step = append(pad.Lo, lo), append(pad.Hi, hi), append(pad.Step, step)
				padDims = append(padDims, lo+dim+max(dim-1, 0)*(step-1)+hi)
			}
			makes(t, cut, byWords(cut, cutDims, []api.Array{a}), a)
			makes(t, pad, byWords(pad, padDims, []api.Array{a}), a)
		}
	}
}

// All ways to take dimensions of 2, 3, 2 and of 3, 2, 2 in pairs.
func TestA4DotByWords(t *testing.T) {
	a, b := from(1, 2, 3, 2), from(-2, 3, 2, 2)
	a.Data[5], b.Data[7] = 1<<62, 1<<61+5
	for _, inA := range subsets(3) {
		for _, perm := range perms(3) {
			inB := perm[:len(inA)]
			for cut := range len(inA) + 1 {
				op := api.Op{Kind: api.Dot, At: inA[:cut], Step: inB[:cut], Lo: inA[cut:], Hi: inB[cut:]}
				if !slices.Equal(only(a.Dims, inA), only(b.Dims, inB)) {
					wantDo(t, op, api.Array{}, api.ErrShape, a, b)
					continue
				}
				dims := append(only(a.Dims, op.Lo), only(a.Dims, without(3, inA))...)
				dims = append(dims, only(b.Dims, without(3, inB))...)
				makes(t, op, byWords(op, dims, []api.Array{a, b}), a, b)
			}
		}
	}
}

func TestA4DotOrderOfPairs(t *testing.T) {
	a, b := from(1, 2, 3, 2), from(3, 2, 2, 3)
	for _, op := range []api.Op{
		{Kind: api.Dot, Lo: l(2, 0), Hi: l(0, 1)},
		{Kind: api.Dot, Lo: l(0, 2), Hi: l(0, 1)},
		{Kind: api.Dot, Lo: l(1, 2), Hi: l(2, 0)},
		{Kind: api.Dot, Lo: l(2), Hi: l(1), At: l(1, 0), Step: l(2, 0)},
		{Kind: api.Dot, Lo: l(1), Hi: l(2), At: l(2, 0), Step: l(0, 1)},
		{Kind: api.Dot, At: l(2, 1, 0), Step: l(0, 2, 1)},
		{Kind: api.Dot, Lo: l(2, 1, 0), Hi: l(0, 2, 1)},
	} {
		dims := append(only(a.Dims, op.Lo), only(a.Dims, without(3, append(slices.Clone(op.Lo), op.At...)))...)
		dims = append(dims, only(b.Dims, without(3, append(slices.Clone(op.Hi), op.Step...)))...)
		makes(t, op, byWords(op, dims, []api.Array{a, b}), a, b)
	}
}

func TestA4JoinByWords(t *testing.T) {
	for _, dims := range lists(l(2), l(2, 3), l(3, 2), l(2, 3, 4), l(1, 0, 2)) {
		for at := range dims {
			var args []api.Array
			long := slices.Clone(dims)
			long[at] = 0
			for i, n := range l(2, 0, 1, 3) {
				part := slices.Clone(dims)
				part[at] = n
				long[at] += n
				args = append(args, from(int64(i+1)*100, part...))
			}
			op := api.Op{Kind: api.Join, At: l(at)}
			makes(t, op, byWords(op, long, args), args...)
		}
	}
}

func TestA4TakeAndPutByWords(t *testing.T) {
	numbers := func(dims []int) api.Array {
		b := from(1, dims...)
		for i := range b.Data {
			b.Data[i] = int64(i*i%7 - 1)
		}
		return b
	}
	for _, rows := range lists(nil, l(0), l(1), l(5), l(2, 3), l(2, 0)) {
		for _, row := range lists(nil, l(0), l(3), l(2, 2)) {
			for first := range 5 {
				a, b := from(11, append(l(first), row...)...), numbers(rows)
				op := api.Op{Kind: api.Take}
				makes(t, op, byWords(op, append(slices.Clone(rows), row...), []api.Array{a, b}), a, b)
				a = from(13, append(slices.Clone(rows), row...)...)
				op = api.Op{Kind: api.Put, Dims: l(first)}
				makes(t, op, byWords(op, append(l(first), row...), []api.Array{a, b}), a, b)
			}
		}
	}
}
