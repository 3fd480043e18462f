package sense_test

import (
	"fmt"
	"slices"
	"strings"
	"testing"

	"adjoint/api"
	"adjoint/array"
	"adjoint/sense"
	"adjoint/text"
)

// l is a list.
func l(numbers ...int) []int { return numbers }

// of is an array.
func of(dims []int, data ...int64) api.Array { return api.Array{Dims: dims, Data: data} }

// one is an array without dimensions.
func one(n int64) api.Array { return of(nil, n) }

// row is an array of one dimension.
func row(data ...int64) api.Array { return of(l(len(data)), data...) }

// from is an array whose numbers are 1, 2 and so on.
func from(dims ...int) api.Array {
	size := 1
	for _, dim := range dims {
		size *= dim
	}
	a := api.Array{Dims: dims}
	for i := range size {
		a.Data = append(a.Data, int64(i+1))
	}
	return a
}

// arrays are arrays.
func arrays(all ...api.Array) []api.Array { return all }

// dimsOf are the dimensions of arrays.
func dimsOf(args []api.Array) [][]int {
	all := [][]int{}
	for _, a := range args {
		all = append(all, a.Dims)
	}
	return all
}

// sameArray tells whether two arrays are alike (nil and empty are the same).
func sameArray(a, b api.Array) bool {
	return slices.Equal(a.Dims, b.Dims) && slices.Equal(a.Data, b.Data)
}

// cut is the beginning of what may be very long.
func cut(s string) string {
	if len(s) > 300 {
		return fmt.Sprintf("%.300s.. (%d bytes)", s, len(s))
	}
	return s
}

// read is the program of a text.
func read(t *testing.T, s string) []api.Func {
	t.Helper()
	p, f := text.Read(s)
	if f.Err != api.OK {
		t.Fatalf("%q can't be read: %v", cut(s), f)
	}
	return p
}

// wantWrong: this is wrong with a program; and Check and Run tell the same of it, whatever they are asked, if something is.
func wantWrong(t *testing.T, s string, want api.Errno) {
	t.Helper()
	wantWrongTrees(t, read(t, s), want)
}

// wantWrongTrees: the same of a program that need not be one that can be read.
func wantWrongTrees(t *testing.T, p []api.Func, want api.Errno) {
	t.Helper()
	what := cut(fmt.Sprintf("%+v", p))
	if s, err := text.Print(p); err == api.OK {
		what = cut(s)
	}
	if got := sense.Wrong(p); got != want {
		t.Errorf("Wrong of %s: %d comes, not %d", what, got, want)
	}
	if want == api.OK {
		return
	}
	for _, name := range []string{"f", "none", "sum"} {
		wantNothing(t, what, want)(sense.Run(p, name, arrays(of(l(-1)))))
		wantNoDims(t, what, want)(sense.Check(p, name, [][]int{l(-1)}))
	}
}

// wantNothing: an array came that is none, and this error.
func wantNothing(t *testing.T, what string, want api.Errno) func(api.Array, api.Errno) {
	t.Helper()
	return func(got api.Array, err api.Errno) {
		t.Helper()
		if err != want || len(got.Dims) > 0 || len(got.Data) > 0 {
			t.Errorf("Run of %s: %v, %d comes, not %d", cut(what), got, err, want)
		}
	}
}

// wantNoDims: no dimensions came, and this error.
func wantNoDims(t *testing.T, what string, want api.Errno) func([]int, api.Errno) {
	t.Helper()
	return func(got []int, err api.Errno) {
		t.Helper()
		if err != want || len(got) > 0 {
			t.Errorf("Check of %s: %v, %d comes, not %d", cut(what), got, err, want)
		}
	}
}

// wantRun: the last function of a program is worth this; Check tells its dimensions.
func wantRun(t *testing.T, s string, want api.Array, args ...api.Array) {
	t.Helper()
	p := read(t, s)
	name := p[len(p)-1].Name
	got, err := sense.Run(p, name, args)
	if err != api.OK || !sameArray(got, want) {
		t.Errorf("Run of %s with %v: %v, %d comes, not %v", cut(s), args, got, err, want)
	}
	dims, err := sense.Check(p, name, dimsOf(args))
	if err != api.OK || !slices.Equal(dims, want.Dims) {
		t.Errorf("Check of %s with %v: %v, %d comes, not %v", cut(s), dimsOf(args), dims, err, want.Dims)
	}
}

// wantError: Run of the last function of a program tells this error, and nothing else; so does Check.
func wantError(t *testing.T, s string, want api.Errno, args ...api.Array) {
	t.Helper()
	p := read(t, s)
	name := p[len(p)-1].Name
	what := fmt.Sprintf("%s with %v", cut(s), args)
	wantNothing(t, what, want)(sense.Run(p, name, args))
	for _, a := range args {
		// Of what is wrong with the numbers of an array dimensions alone tell nothing.
		if array.Wrong(a) != api.OK {
			return
		}
	}
	wantNoDims(t, what, want)(sense.Check(p, name, dimsOf(args)))
}

// filled is an expr that is worth x, and makes so many steps (at most MaxOps), none of them an operation.
func filled(steps int) string {
	if steps < 64 {
		return fmt.Sprintf("(repeat %d y = x with y)", steps)
	}
	return fmt.Sprintf("(repeat 64 y = %s with repeat %d z = y with z)", filled(steps%64), steps/64-1)
}

// program is a text of functions, one a line.
func program(lines ...string) string { return strings.Join(lines, "\n") }
