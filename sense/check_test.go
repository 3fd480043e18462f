package sense_test

import (
	"fmt"
	"slices"
	"testing"

	"adjoint/api"
	"adjoint/sense"
)

// wantCheck: Check of the last function of a program tells these dimensions, or this error.
func wantCheck(t *testing.T, s string, want []int, err api.Errno, dims ...[]int) {
	t.Helper()
	p := read(t, s)
	got, gotErr := sense.Check(p, p[len(p)-1].Name, dims)
	if gotErr != err || !slices.Equal(got, want) {
		t.Errorf("Check of %s with %v: %v, %d comes, not %v, %d", cut(s), dims, got, gotErr, want, err)
	}
}

func TestS5WhatIsAskedFor(t *testing.T) {
	wantNoDims(t, "nothing", api.ErrName)(sense.Check(nil, "f", nil))
	p := read(t, "fn f(x: [n]) = x; fn g() = 7;")
	for _, name := range []string{"", "h", "sum", "x", "n"} {
		for _, dims := range [][][]int{nil, {l(1)}, {l(-1), l(-1)}} {
			wantNoDims(t, name, api.ErrName)(sense.Check(p, name, dims))
		}
	}
	for _, dims := range [][][]int{nil, {}, {l(1), l(2)}, {l(-1), l(-1)}} {
		wantNoDims(t, "f", api.ErrMany)(sense.Check(p, "f", dims))
	}
	wantNoDims(t, "g", api.ErrMany)(sense.Check(p, "g", [][]int{nil}))
	got, err := sense.Check(p, "f", [][]int{l(5)})
	if err != api.OK || !slices.Equal(got, l(5)) {
		t.Errorf("%v, %d comes", got, err)
	}
	got, err = sense.Check(p, "g", nil)
	if err != api.OK || len(got) > 0 {
		t.Errorf("%v, %d comes", got, err)
	}
}

// Parameter by parameter: what Size says, then whether they fit.
func TestS5Parameters(t *testing.T) {
	ones := l(1, 1, 1, 1, 1, 1, 1)
	for _, c := range []struct {
		dims []int
		err  api.Errno
	}{
		{ones, api.ErrRank}, {l(-1), api.ErrRange}, {l(4097), api.ErrRange}, {l(4096, 17), api.ErrMuch}, {l(-1, 4096, 4096), api.ErrRange},
	} {
		wantCheck(t, "fn f(x: [n]) = 1;", nil, c.err, c.dims)
		wantCheck(t, "fn f(x: []) = repeat 65 y = x with y;", nil, c.err, c.dims)
		wantCheck(t, "fn f(x: [n], y: []) = 1;", nil, c.err, l(3), c.dims)
		wantCheck(t, "fn f(x: [n], y: []) = 1;", nil, api.ErrShape, nil, c.dims)
		wantCheck(t, "fn f(x: [n], y: []) = 1;", nil, c.err, c.dims, l(3))
	}
	wantCheck(t, "fn f(x: [n n]) = reform[n 1 n](x);", l(3, 1, 3), api.OK, l(3, 3))
	wantCheck(t, "fn f(x: [n n]) = reform[n 1 n](x);", nil, api.ErrShape, l(3, 2))
	wantCheck(t, "fn f(x: [n n]) = reform[n 1 n](x);", nil, api.ErrRange, l(9999))
	wantCheck(t, "fn f(x: [n m]) = x;", l(4096, 0), api.OK, l(4096, 0))
	wantCheck(t, "fn f(x: [n m]) = x;", l(4096, 16), api.OK, l(4096, 16))
}

// Nothing hangs on numbers: what is made of 65,536 entries 4,096 times over is told at once.
func TestS5DimensionsAlone(t *testing.T) {
	wantCheck(t, "fn f(x: [n n]) = repeat 64 y = x with repeat 31 z = y with dot{1}{0}(z, x);", l(256, 256), api.OK, l(256, 256))
	wantCheck(t, "fn f(x: [n n]) = repeat 64 y = x with repeat 32 z = y with dot{1}{0}(z, x);", nil, api.ErrMuch, l(256, 256))
}

// Of the same dimensions Check and Run tell the same, whatever the numbers are.
func TestS5CheckAndRunAgree(t *testing.T) {
	shapes := [][]int{nil, l(0), l(1), l(2), l(3), l(1, 1), l(2, 2), l(2, 3), l(3, 2), l(0, 2), l(2, 0), l(2, 1, 2)}
	bodies := []string{"x", "y", "x + y", "x - 1", "max(x, y)", "pick(x, y, 0)", "pick(1, y, x)", "pick(1, 2, x)", "spread[2 2]{0}(x)", "spread[2 3]{}(y)",
		"sum{0}(x)", "sum{1}(y)", "sum{0 1}(x)", "turn{1 0}(x)", "flip{0}(y)", "reform[2](x)", "reform[6](x)", "reform[0 9](x)", "cut{1}{2}{1}(x)",
		"cut{0 0}{2 2}{1 2}(x)", "pad{1}{1}{2}(x)", "pad{1 0}{0 0}{1 3}(y)", "dot{0}{0}(x, y)", "dot{1}{0}(x, y)", "dot{}{}(x, y)", "dot{}{}{0}{0}(x, y)",
		"dot{1}{1}{0}{0}(x, y)", "join{0}(x, y)", "join{1}(x, y)", "join{0}(x)", "take(x, y)", "take(x, 1)", "put[2](x, y)", "put[0](x, y)",
		"let z = x * y in sum{0}(z)", "repeat 2 z = x with sum{0}(z)", "repeat 3 z = x with dot{}{}(z, y)", "repeat 65 z = x with z", "g(x)", "h(x, y)", "g(h(x, y))"}
	for _, body := range bodies {
		s := program("fn g(x: [n]) = reform[1 n](x);", "fn h(x: [n m], y: [m]) = dot{1}{0}(x, y);")
		for _, a := range shapes {
			for _, b := range shapes {
				args := arrays(from(a...), from(b...))
				p := read(t, s+"fn f("+renamed(args)+") = "+body+";")
				dims, err := sense.Check(p, "f", [][]int{a, b})
				got, runErr := sense.Run(p, "f", args)
				if err != runErr || !slices.Equal(dims, got.Dims) {
					t.Errorf("%s of %v, %v: Check tells %v, %d, Run %v, %d", body, a, b, dims, err, got, runErr)
				}
				clear(args[0].Data)
				other, otherErr := sense.Run(p, "f", args)
				if otherErr != runErr || !slices.Equal(other.Dims, got.Dims) {
					t.Errorf("%s of %v, %v: %v, %d, and with noughts %v, %d", body, a, b, got, runErr, other, otherErr)
				}
			}
		}
	}
}

// renamed are the parameters x and y, with the ranks of two arrays.
func renamed(args []api.Array) string {
	out := ""
	for i, a := range args {
		dims := ""
		for k := range a.Dims {
			dims += fmt.Sprintf(" d%d_%d", i, k)
		}
		out += fmt.Sprintf("%c: [%s],", 'x'+i, dims)
	}
	return out[:len(out)-1]
}
