package sense_test

import (
	"fmt"
	"strings"
	"testing"

	"adjoint/api"
	"adjoint/sense"
)

// functions that the exprs of these tests call.
const helpers = "fn id(x: []) = x; fn none() = 1; fn inc(x: []) = x + 1; fn twice(x: []) = inc(inc(x)); fn first(x: [n], y: [m]) = x;\n"

// An expr makes so many steps: behind as many as leave just room for them it is worked out; behind one more ErrMuch is told.
func TestS4Steps(t *testing.T) {
	v := row(3, 4)
	for _, c := range []struct {
		expr  string
		steps int
	}{
		{"x", 0},
		{"v", 0},
		{"let a = x in a", 0},
		{"repeat 0 a = x with a + 1", 0},
		{"1", 1},
		{"x + x", 1},
		{"v * v", 1},
		{"x - 1", 2},
		{"1 - 1", 3},
		{"v - x", 2},
		{"x - v", 2},
		{"v - 1", 3},
		{"max(1, v)", 3},
		{"less(v, v)", 1},
		{"less(v, x)", 2},
		{"pick(x, x, x)", 1},
		{"pick(v, x, x)", 3},
		{"pick(x, v, x)", 3},
		{"pick(x, x, v)", 3},
		{"pick(v, v, x)", 2},
		{"pick(1, v, 2)", 5},
		{"sum{0}(v)", 1},
		{"turn{0}(v)", 1},
		{"flip{0}(v)", 1},
		{"spread[2 2]{0}(v)", 1},
		{"spread[2]{}(1)", 2},
		{"reform[2 1](v)", 1},
		{"cut{0}{1}{1}(v)", 1},
		{"pad{0}{1}{1}(v)", 1},
		{"dot{0}{0}(v, v)", 1},
		{"dot{}{}(v, x)", 1},
		{"join{0}(v, v, v)", 1},
		{"take(v, 1)", 2},
		{"put[3](v, v)", 1},
		{"let a = x + x in a + a", 2},
		{"let a = 1 in x", 1},
		{"repeat 1 a = x with a", 1},
		{"repeat 5 a = x with a", 5},
		{"repeat 5 a = x + x with a + a", 11},
		{"repeat 3 a = 1 with a + 1", 10},
		{"repeat 64 a = x with a", 64},
		{"repeat 3 a = v with a + x", 9},
		{"repeat 3 a = x with repeat 4 b = a with b + x", 27},
		{"id(x)", 1},
		{"none()", 2},
		{"inc(x)", 3},
		{"inc(1)", 4},
		{"twice(x)", 7},
		{"twice(x) + twice(x)", 15},
		{"first(v, v)", 1},
		{"id(id(id(x)))", 3},
	} {
		wantSteps(t, c.expr, c.steps, v)
	}
}

// wantSteps: what is worked out in just MaxOps steps is worked out, and what would make one more is not.
func wantSteps(t *testing.T, expr string, steps int, v api.Array) {
	t.Helper()
	ask := func(ahead int) string {
		return helpers + "fn f(x: [], v: [n]) = let w = " + filled(ahead) + " in " + expr + ";"
	}
	want, err := sense.Run(read(t, ask(0)), "f", arrays(one(2), v))
	if err != api.OK {
		t.Errorf("%s: %d", expr, err)
		return
	}
	wantRun(t, ask(api.MaxOps-steps), want, one(2), v)
	if steps > 0 {
		wantError(t, ask(api.MaxOps-steps+1), api.ErrMuch, one(2), v)
		wantError(t, ask(api.MaxOps), api.ErrMuch, one(2), v)
	}
}

// Where the step that is one too many would be made, nothing else that is wrong there is told.
func TestS4StepsAheadOfWhatIsWrong(t *testing.T) {
	v := row(3, 4)
	for _, c := range []struct {
		expr  string
		steps int // that are made ahead of the error, with the one that is wrong
		want  api.Errno
	}{
		{"sum{9}(v)", 1, api.ErrShape},
		{"spread[9999]{0}(v)", 1, api.ErrRange},
		{"reform[4096 17](v)", 1, api.ErrMuch},
		{"v + first(v, v) * sum{0}(spread[3 2]{1}(v)) + spread[3]{}(x)", 7, api.ErrShape},
		{"v + spread[3]{}(1)", 3, api.ErrShape},
		{"pick(x, v, spread[3]{}(x))", 3, api.ErrShape},
		{"pick(x, x, sum{0}(x))", 1, api.ErrShape},
		{"first(v, x)", 1, api.ErrShape},
		{"first(x, v)", 1, api.ErrShape},
		{"first(1, 1)", 3, api.ErrShape},
		{"id(v)", 1, api.ErrShape},
		{"inc(v)", 1, api.ErrShape},
		{"id(sum{9}(v))", 1, api.ErrShape},
		{"repeat 1 a = v with sum{9}(v)", 2, api.ErrShape},
		{"repeat 3 a = v with sum{0}(a)", 4, api.ErrShape},
		{"repeat 2 a = sum{9}(v) with a", 1, api.ErrShape},
		{"repeat 1 a = v with id(a)", 2, api.ErrShape},
		{"let a = 1 in sum{0}(a)", 2, api.ErrShape},
	} {
		for ahead := api.MaxOps - c.steps - 1; ahead <= api.MaxOps; ahead++ {
			want := c.want
			if ahead+c.steps > api.MaxOps {
				want = api.ErrMuch
			}
			wantError(t, helpers+"fn f(x: [], v: [n]) = let w = "+filled(ahead)+" in "+c.expr+";", want, one(2), v)
		}
	}
	// Too many turns are no step.
	for ahead := api.MaxOps - 1; ahead <= api.MaxOps; ahead++ {
		wantError(t, "fn f(x: []) = let w = "+filled(ahead)+" in repeat 65 a = sum{9}(x) with a;", api.ErrRange, one(2))
	}
	wantError(t, "fn f(x: []) = let w = "+filled(api.MaxOps)+" in repeat 64 a = sum{9}(x) with a;", api.ErrMuch, one(2))
	wantError(t, "fn f(x: []) = let w = "+filled(api.MaxOps)+" in repeat 1 a = x with sum{9}(x);", api.ErrMuch, one(2))
	wantError(t, "fn f(x: []) = let w = "+filled(api.MaxOps)+" in repeat 1 a = x with repeat 65 b = x with x;", api.ErrMuch, one(2))
}

// All 4,096 steps may be operations; one more is too much.
func TestS4StepsOfOperationsAlone(t *testing.T) {
	// A sum of 64 products, each with 63 signs, but for some that have one more.
	sum := func(longer int) string {
		parts := make([]string, 64)
		for k := range parts {
			parts[k] = "x" + strings.Repeat(" * x", 63)
			if k < longer {
				parts[k] += " * x"
			}
		}
		return "fn f(x: []) = " + strings.Join(parts, " + ") + ";"
	}
	wantRun(t, sum(0), one(64), one(1))
	wantRun(t, sum(1), one(64), one(1))
	wantError(t, sum(2), api.ErrMuch, one(1))
	// Calls alone, and turns alone.
	wantRun(t, doubled("g0(g11(x))"), one(2), one(2))
	wantRun(t, doubled("g11(x) + x"), one(4), one(2))
	wantError(t, doubled("g0(g0(g11(x)))"), api.ErrMuch, one(2))
	wantError(t, doubled("g11(x) + g0(x)"), api.ErrMuch, one(2))
	wantRun(t, "fn f(x: []) = repeat 64 y = x with repeat 63 z = y with z;", one(2), one(2))
	wantError(t, "fn f(x: []) = (repeat 64 y = x with repeat 63 z = y with z) + x;", api.ErrMuch, one(2))
	wantError(t, "fn f(x: []) = repeat 64 y = x with repeat 64 z = y with z;", api.ErrMuch, one(2))
	wantError(t, "fn g(x: []) = repeat 64 y = x with repeat 31 z = y with z + 1; fn f(x: []) = g(x);", api.ErrMuch, one(2))
}

// doubled is a program of twelve functions, each of which asks the one ahead of it twice, so that a call of g11 makes 4,095 calls in all; and of f.
func doubled(body string) string {
	lines := []string{"fn g0(x: []) = x;"}
	for k := range 11 {
		lines = append(lines, fmt.Sprintf("fn g%d(x: []) = let a = g%d(x) in g%d(a);", k+1, k, k))
	}
	return strings.Join(lines, "\n") + "\nfn f(x: []) = " + body + ";"
}
