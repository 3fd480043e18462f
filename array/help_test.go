package array_test

import (
	"fmt"
	"math"
	"slices"
	"testing"

	"adjoint/api"
	"adjoint/array"
)

const (
	most  = math.MaxInt
	least = math.MinInt
)

// l is a list.
func l(numbers ...int) []int { return numbers }

// ones are so many times 1.
func ones(many int) []int { return slices.Repeat(l(1), many) }

// lists are lists.
func lists(all ...[]int) [][]int { return all }

// of is an array.
func of(dims []int, data ...int64) api.Array { return api.Array{Dims: dims, Data: data} }

// one is an array without dimensions.
func one(n int64) api.Array { return of(nil, n) }

// from is an array whose numbers are 1, 2 and so on, times a factor.
func from(factor int64, dims ...int) api.Array {
	a := api.Array{Dims: dims}
	for i := range indices(dims) {
		a.Data = append(a.Data, factor*int64(i+1))
	}
	return a
}

// noughts is an array of noughts.
func noughts(dims ...int) api.Array { return from(0, dims...) }

// indices are all indices of dimensions, in the order of lists, made without the package.
func indices(dims []int) [][]int {
	all := [][]int{{}}
	if slices.Contains(dims, 0) {
		return nil
	}
	for _, dim := range dims {
		var longer [][]int
		for _, at := range all {
			for i := range dim {
				longer = append(longer, append(slices.Clone(at), i))
			}
		}
		all = longer
	}
	return all
}

// sameArray tells whether two arrays are alike (nil and empty are the same).
func sameArray(a, b api.Array) bool {
	return slices.Equal(a.Dims, b.Dims) && slices.Equal(a.Data, b.Data)
}

// sameOp tells whether two operations are alike in all fields (nil and empty are the same).
func sameOp(a, b api.Op) bool {
	return a.Kind == b.Kind && a.Value == b.Value && slices.Equal(a.Dims, b.Dims) && slices.Equal(a.At, b.At) &&
		slices.Equal(a.Lo, b.Lo) && slices.Equal(a.Hi, b.Hi) && slices.Equal(a.Step, b.Step)
}

// kinds are all kinds of A3's table.
func kinds() []int {
	return l(api.Fill, api.Add, api.Sub, api.Mul, api.Max, api.Less, api.Pick, api.Spread, api.Sum, api.Turn,
		api.Reform, api.Cut, api.Pad, api.Flip, api.Dot, api.Join, api.Take, api.Put)
}

// many is how many arguments a kind takes (of a Join: the fewest).
func many(kind int) int {
	switch kind {
	case api.Fill:
		return 0
	case api.Spread, api.Sum, api.Turn, api.Reform, api.Cut, api.Pad, api.Flip, api.Join:
		return 1
	case api.Pick:
		return 3
	}
	return 2
}

// wantDims: Dims tells these, or this error and nothing else; and Do and Weight tell the same error.
func wantDims(t *testing.T, op api.Op, args [][]int, want []int, wantErr api.Errno) {
	t.Helper()
	what := fmt.Sprint(op, args)
	got, err := array.Dims(op, args)
	if err != wantErr || !slices.Equal(got, want) {
		t.Errorf("Dims %s: %v, %d comes, not %v, %d", what, got, err, want, wantErr)
	}
	if wantErr == api.OK {
		return
	}
	if weight, err := array.Weight(op, args); weight != 0 || err != wantErr {
		t.Errorf("Weight %s: %d, %d comes, not %d", what, weight, err, wantErr)
	}
}

// wantDo: Do makes this, or tells this error and nothing else.
func wantDo(t *testing.T, op api.Op, want api.Array, wantErr api.Errno, args ...api.Array) {
	t.Helper()
	got, err := array.Do(op, args)
	if err != wantErr || !sameArray(got, want) {
		t.Errorf("Do %v %v: %v, %d comes, not %v, %d", op, args, got, err, want, wantErr)
	}
	if err == api.OK {
		wantDims(t, op, dimsOf(args), want.Dims, api.OK)
	}
}

// makes: Do makes this.
func makes(t *testing.T, op api.Op, want api.Array, args ...api.Array) {
	t.Helper()
	wantDo(t, op, want, api.OK, args...)
}

// dimsOf are the dimensions of arrays.
func dimsOf(args []api.Array) [][]int {
	var all [][]int
	for _, a := range args {
		all = append(all, a.Dims)
	}
	return all
}
