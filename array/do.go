package array

import (
	"adjoint/api"
	"adjoint/sight"
	"adjoint/view"
)

// Do makes an array of others.
func Do(op api.Op, args []api.Array) (api.Array, api.Errno) {
	if err := takes(op.Kind, len(args)); err != api.OK {
		return api.Array{}, err
	}
	dims := make([][]int, len(args))
	for i, a := range args {
		if err := Wrong(a); err != api.OK {
			return api.Array{}, err
		}
		dims[i] = a.Dims
	}
	made, err := Dims(op, dims)
	if err != api.OK {
		return api.Array{}, err
	}
	out := api.Array{Dims: made, Data: make([]int64, count(made))}
	// Without entries there is nothing to do; what goes through rows may then rely on there being some.
	if len(out.Data) > 0 {
		work(out, op, args)
	}
	return out, api.OK
}

// work puts the numbers into an array of noughts that has the right dimensions.
func work(out api.Array, op api.Op, args []api.Array) {
	switch op.Kind {
	case api.Reform:
		copy(out.Data, args[0].Data)
	case api.Sum, api.Pad:
		add(out.Data, sight.Landing(op, args[0].Dims, out.Dims), args[0].Data)
	case api.Dot:
		dot(out.Data, op, args[0], args[1])
	case api.Join:
		join(out, op.At[0], args)
	case api.Take:
		takeRows(out.Data, args[0], args[1].Data)
	case api.Put:
		putRows(out, args[0].Data, args[1].Data)
	default:
		fill(out.Data, entry(op, args))
	}
}

// fill puts what is told entry by entry.
func fill(out []int64, entry func(i int) int64) {
	for i := range out {
		out[i] = entry(i)
	}
}

// entry tells what each entry is, of operations that look at no more than one entry of each argument.
func entry(op api.Op, args []api.Array) func(i int) int64 {
	switch op.Kind {
	case api.Fill:
		return func(int) int64 { return op.Value }
	case api.Spread, api.Turn, api.Cut, api.Flip:
		return lookedAt(op, args[0])
	case api.Pick:
		which, yes, no := args[0].Data, args[1].Data, args[2].Data
		return func(i int) int64 {
			if which[i] != 0 {
				return yes[i]
			}
			return no[i]
		}
	}
	two, a, b := ofTwo(op.Kind), args[0].Data, args[1].Data
	return func(i int) int64 { return two(a[i], b[i]) }
}

// lookedAt tells, entry by entry, what a view of an array reads.
func lookedAt(op api.Op, a api.Array) func(i int) int64 {
	v, _ := sight.Read(op, a.Dims)
	places, _ := view.Reads(v)
	return func(i int) int64 { return a.Data[places[i]] }
}

// ofTwo tells what a kind makes of two numbers.
func ofTwo(kind int) func(x, y int64) int64 {
	switch kind {
	case api.Add:
		return func(x, y int64) int64 { return x + y }
	case api.Sub:
		return func(x, y int64) int64 { return x - y }
	case api.Mul:
		return func(x, y int64) int64 { return x * y }
	case api.Max:
		return func(x, y int64) int64 { return max(x, y) }
	}
	return func(x, y int64) int64 {
		if x < y {
			return 1
		}
		return 0
	}
}

// add adds numbers to those that a view reads.
func add(out []int64, v api.View, data []int64) {
	places, _ := view.Reads(v)
	for i, n := range data {
		out[places[i]] += n
	}
}

// join puts arrays one behind the other along a dimension. Each array is gone through once, in stretches of what lies from that dimension on: so those without entries cost nothing, however many they are.
func join(out api.Array, at int, args []api.Array) {
	behind := count(out.Dims[at+1:])
	whole := out.Dims[at] * behind
	begin := 0
	for _, a := range args {
		long := a.Dims[at] * behind
		for from, to := 0, begin; from < len(a.Data); from, to = from+long, to+whole {
			copy(out.Data[to:], a.Data[from:from+long])
		}
		begin += long
	}
}

// takeRows puts rows of a, by their numbers, one behind the other.
func takeRows(out []int64, a api.Array, numbers []int64) {
	long := len(out) / len(numbers)
	for i, n := range numbers {
		if n >= 0 && n < int64(a.Dims[0]) {
			from := int(n) * long
			copy(out[i*long:], a.Data[from:from+long])
		}
	}
}

// putRows adds rows, one behind the other, to those with these numbers.
func putRows(out api.Array, data, numbers []int64) {
	many := out.Dims[0]
	long := len(out.Data) / many
	for i, n := range numbers {
		if n < 0 || n >= int64(many) {
			continue
		}
		row := out.Data[int(n)*long:]
		for k, x := range data[i*long : (i+1)*long] {
			row[k] += x
		}
	}
}
