package sense_test

import (
	"fmt"
	"math"
	"strings"
	"testing"

	"adjoint/api"
	"adjoint/sense"
)

// What is asked ahead of the body: the program, the function, how many arguments, each of them.
func TestS4WhatIsAskedFor(t *testing.T) {
	wantNothing(t, "nothing", api.ErrName)(sense.Run(nil, "f", nil))
	wantNothing(t, "nothing", api.ErrName)(sense.Run(nil, "", arrays(one(1))))
	p := read(t, "fn f(x: [n]) = x; fn g() = 7;")
	for _, name := range []string{"", "h", "F", "sum", "x", "n", "+", "fn"} {
		for _, args := range [][]api.Array{nil, arrays(row(1)), arrays(of(l(-1)), one(1))} {
			wantNothing(t, name, api.ErrName)(sense.Run(p, name, args))
		}
	}
	for _, args := range [][]api.Array{nil, arrays(row(1), row(2)), arrays(of(l(-1)), of(l(-1)))} {
		wantNothing(t, "f", api.ErrMany)(sense.Run(p, "f", args))
	}
	wantNothing(t, "g", api.ErrMany)(sense.Run(p, "g", arrays(row(1))))
	// Any of the functions can be asked for, not just the last one.
	got, err := sense.Run(p, "f", arrays(row(5, 6)))
	if err != api.OK || !sameArray(got, row(5, 6)) {
		t.Errorf("%v, %d comes", got, err)
	}
	got, err = sense.Run(p, "g", []api.Array{})
	if err != api.OK || !sameArray(got, one(7)) {
		t.Errorf("%v, %d comes", got, err)
	}
}

// Parameter by parameter: what is wrong with the array, then whether it fits.
func TestS4Arguments(t *testing.T) {
	wantError(t, "fn f(x: [n]) = x;", api.ErrRange, of(l(-1)))
	wantError(t, "fn f(x: [n]) = x;", api.ErrRange, of(l(4097)))
	wantError(t, "fn f(x: [n]) = x;", api.ErrRank, of(l(1, 1, 1, 1, 1, 1, 1), 1))
	wantError(t, "fn f(x: [n]) = x;", api.ErrMuch, of(l(4096, 17)))
	wantError(t, "fn f(x: [n]) = x;", api.ErrShape, of(l(2), 1))
	wantError(t, "fn f(x: [n]) = x;", api.ErrShape, of(l(2), 1, 2, 3))
	wantError(t, "fn f(x: []) = x;", api.ErrShape, of(nil))
	good, unfit, ill := row(1, 2), one(1), of(l(4096, 17))
	wantError(t, "fn f(x: [n], y: [n]) = x;", api.ErrShape, unfit, ill)
	wantError(t, "fn f(x: [n], y: [n]) = x;", api.ErrMuch, ill, unfit)
	wantError(t, "fn f(x: [n], y: [n]) = x;", api.ErrMuch, good, ill)
	wantError(t, "fn f(x: [n], y: [n]) = sum{9}(repeat 65 z = 1 with z);", api.ErrShape, good, unfit)
	wantError(t, "fn f(x: [n], y: [3]) = x;", api.ErrMuch, good, ill)
}

func TestS4WhatFits(t *testing.T) {
	for _, c := range []struct {
		given string
		args  []api.Array
		fits  bool
	}{
		{"", nil, true},
		{"x: []", arrays(one(1)), true},
		{"x: []", arrays(row(1)), false},
		{"x: [n]", arrays(one(1)), false},
		{"x: [n]", arrays(row()), true},
		{"x: [n]", arrays(row(1, 2, 3)), true},
		{"x: [n]", arrays(from(3, 1)), false},
		{"x: [n m]", arrays(row(1)), false},
		{"x: [3]", arrays(row(1, 2, 3)), true},
		{"x: [3]", arrays(row(1, 2)), false},
		{"x: [0]", arrays(row()), true},
		{"x: [0]", arrays(row(1)), false},
		{"x: [1]", arrays(row()), false},
		{"x: [9223372036854775807]", arrays(row(1)), false},
		{"x: [2 3]", arrays(from(2, 3)), true},
		{"x: [2 3]", arrays(from(3, 2)), false},
		{"x: [3 2]", arrays(from(2, 2)), false},
		{"x: [n n]", arrays(from(3, 3)), true},
		{"x: [n n]", arrays(from(3, 2)), false},
		{"x: [n n]", arrays(from(0, 0)), true},
		{"x: [n n]", arrays(from(0, 1)), false},
		{"x: [n n]", arrays(from(1, 0)), false},
		{"x: [n m n]", arrays(from(2, 3, 2)), true},
		{"x: [n m n]", arrays(from(2, 2, 3)), false},
		{"x: [n m]", arrays(from(2, 2)), true},
		{"x: [n 2 m]", arrays(from(3, 2, 1)), true},
		{"x: [n 2 m]", arrays(from(2, 3, 1)), false},
		{"x: [n], y: [n]", arrays(row(1, 2), row(3, 4)), true},
		{"x: [n], y: [n]", arrays(row(1, 2), row(3)), false},
		{"x: [n], y: [n]", arrays(row(), row(3)), false},
		{"x: [n], y: [m]", arrays(row(1, 2), row(3)), true},
		{"x: [n m], y: [m n]", arrays(from(2, 3), from(3, 2)), true},
		{"x: [n m], y: [m n]", arrays(from(2, 3), from(2, 3)), false},
		{"x: [n], y: [], z: [n]", arrays(row(1), one(1), row(2)), true},
		{"x: [n], y: [], z: [n]", arrays(row(1), one(1), row(2, 3)), false},
		{"x: [n], y: [m], z: [n m]", arrays(row(1), row(1, 2), from(1, 2)), true},
		{"x: [n], y: [m], z: [n m]", arrays(row(1), row(1, 2), from(2, 1)), false},
		{"x: [x]", arrays(row(1, 2)), true},
		{"x: [a b c d e f]", arrays(from(1, 1, 1, 1, 1, 1)), true},
		{"x: [a b c d e f g]", arrays(from(1, 1, 1, 1, 1, 1)), false},
	} {
		// What is asked for, and what a function of the program is called with.
		ask := "fn f(" + c.given + ") = 9;"
		inner := fmt.Sprintf("fn g(%s) = 9; fn f(%s) = g(%s);", c.given, givenText(c.args), nameList(len(c.args)))
		for _, s := range []string{ask, inner} {
			if c.fits {
				wantRun(t, s, one(9), c.args...)
			} else {
				wantError(t, s, api.ErrShape, c.args...)
			}
		}
	}
}

// nameList are the names a, b and so on.
func nameList(many int) string {
	var out []string
	for i := range many {
		out = append(out, string(rune('a'+i)))
	}
	return strings.Join(out, ", ")
}

func TestS4NumbersAndNames(t *testing.T) {
	wantRun(t, "fn f() = 0;", one(0))
	wantRun(t, "fn f() = 9223372036854775807;", one(math.MaxInt64))
	wantRun(t, "fn f() = 9223372036854775807 + 1;", one(math.MinInt64))
	wantRun(t, "fn f() = 4294967296 * 4294967296 - 1;", one(-1))
	wantRun(t, "fn f(x: []) = x;", one(-3), one(-3))
	wantRun(t, "fn f(x: [n m]) = x;", from(2, 3), from(2, 3))
	wantRun(t, "fn f(x: [n]) = x;", row(), row())
	wantRun(t, "fn f(x: [n], y: [m]) = y;", row(7), row(1, 2), row(7))
	wantRun(t, "fn f(x: []) = 10 - x - 1;", one(6), one(3))
	wantRun(t, "fn f(x: []) = 10 - (x - 1);", one(8), one(3))
	wantRun(t, "fn f(x: []) = 2 + x * x;", one(11), one(3))
}

// Example 3 of the document.
func TestS4Example(t *testing.T) {
	const s = "fn f(x: [2]) = let y = x * x in sum{0}(y) - 1;"
	wantRun(t, s, one(24), row(3, 4))
	wantRun(t, s, one(24+6<<32), row(3+1<<32, 4))
	wantError(t, s, api.ErrShape, row(3, 4, 5))
}

// Arguments without dimensions beside such as have some.
func TestS4Spreading(t *testing.T) {
	wantRun(t, "fn f(x: [n]) = x + 1;", row(4, 5), row(3, 4))
	wantRun(t, "fn f(x: [n]) = 1 + x;", row(4, 5), row(3, 4))
	wantRun(t, "fn f(x: [n]) = 1 - x;", row(-2, -3), row(3, 4))
	wantRun(t, "fn f(x: [n]) = x - 1;", row(2, 3), row(3, 4))
	wantRun(t, "fn f(x: [n m]) = 2 * x;", of(l(2, 2), 2, 4, 6, 8), from(2, 2))
	wantRun(t, "fn f(x: [n]) = max(x, 4);", row(4, 4, 5), row(3, 4, 5))
	wantRun(t, "fn f(x: [n]) = max(4, x);", row(4, 4, 5), row(3, 4, 5))
	wantRun(t, "fn f(x: [n]) = less(x, 4);", row(1, 0, 0), row(3, 4, 5))
	wantRun(t, "fn f(x: [n]) = less(4, x);", row(0, 0, 1), row(3, 4, 5))
	wantRun(t, "fn f() = less(4, 5);", one(1))
	wantRun(t, "fn f() = pick(0, 4, 5);", one(5))
	wantRun(t, "fn f(x: [n]) = pick(x, 4, 5);", row(5, 4), row(0, 2))
	wantRun(t, "fn f(x: [n]) = pick(1, x, 5);", row(0, 2), row(0, 2))
	wantRun(t, "fn f(x: [n]) = pick(0, 5, x);", row(0, 2), row(0, 2))
	wantRun(t, "fn f(x: [n]) = pick(x, x, 5);", row(5, 2), row(0, 2))
	wantRun(t, "fn f(x: [n]) = pick(0, x, x);", row(0, 2), row(0, 2))
	wantRun(t, "fn f(x: [n]) = x + 1;", row(), row())
	wantRun(t, "fn f(x: [n m]) = 1 + x;", of(l(0, 3)), of(l(0, 3)))
	// A dimension of 1 is a dimension.
	wantError(t, "fn f(x: [n], y: [m]) = x + y;", api.ErrShape, row(1), row(1, 2))
	wantError(t, "fn f(x: [n], y: [n n]) = x + y;", api.ErrShape, row(1), of(l(1, 1), 5))
	// The first one that has dimensions tells them; another one that has others is wrong all the same.
	wantError(t, "fn f(x: [n], y: [m]) = pick(1, x, y);", api.ErrShape, row(1), row(1, 2))
	wantError(t, "fn f(x: [n], y: [m]) = pick(x, y, 1);", api.ErrShape, row(1), row(1, 2))
	wantError(t, "fn f(x: [n], y: [m]) = pick(x, 1, y);", api.ErrShape, row(1, 2), row(1))
	// Nothing is spread for the others.
	wantError(t, "fn f(x: [n]) = join{0}(x, 1);", api.ErrShape, row(1, 2))
	wantError(t, "fn f(x: [n]) = dot{0}{0}(x, 1);", api.ErrShape, row(1, 2))
	wantRun(t, "fn f(x: [n]) = dot{}{}(x, 3);", row(3, 6), row(1, 2))
	wantRun(t, "fn f(x: [n]) = take(x, 1);", one(2), row(1, 2))
	wantRun(t, "fn f(x: [n]) = put[2](x, 1);", of(l(2, 2), 0, 0, 1, 2), row(1, 2))
	wantError(t, "fn f(x: [n]) = put[2](1, x);", api.ErrShape, row(1, 2))
	wantError(t, "fn g(x: [n], y: [n]) = x + y; fn f(x: [n]) = g(x, 1);", api.ErrShape, row(1, 2))
}

// A name in a shape is what it stands for in this function.
func TestS4NamesInShapes(t *testing.T) {
	wantRun(t, "fn f(x: [n m]) = reform[m n](x);", of(l(3, 2), 1, 2, 3, 4, 5, 6), from(2, 3))
	wantRun(t, "fn f(x: [n m]) = spread[m n]{}(0);", from0(3, 2), from(2, 3))
	wantRun(t, "fn f(x: [n], y: [m]) = spread[n m 2]{0}(x);", of(l(2, 1, 2), 1, 1, 2, 2), row(1, 2), row(9))
	wantRun(t, "fn f(x: [n]) = put[n](x, x);", row(0, 1, 2), row(1, 2, 7))
	wantRun(t, "fn f(x: [n]) = reform[n 1](x);", of(l(0, 1)), row())
	wantRun(t, "fn f(x: [n 3]) = reform[3 n](x);", of(l(3, 2), 1, 2, 3, 4, 5, 6), from(2, 3))
	// In another function it stands for something else, and what it stood for is not lost.
	wantRun(t, program("fn g(x: [n]) = spread[n]{}(1);", "fn f(x: [n], y: [m]) = join{0}(g(y), spread[n]{}(2), g(x));"),
		row(1, 1, 1, 2, 2, 1, 1), row(8, 8), row(9, 9, 9))
	wantRun(t, program("fn g(y: [m], x: [n]) = spread[n m]{}(1);", "fn f(x: [m], y: [n]) = g(x, y);"), of(l(1, 2), 1, 1), row(8, 8), row(9))
	// A let or a repeat of the same name changes nothing about it.
	wantRun(t, "fn f(x: [n]) = let n = 7 in spread[n]{}(n);", row(7, 7), row(0, 0))
	wantRun(t, "fn f(x: [x]) = let x = sum{0}(x) in spread[x]{}(x);", row(3, 3), row(1, 2))
}

// from0 is an array of noughts.
func from0(dims ...int) api.Array {
	a := from(dims...)
	clear(a.Data)
	return a
}

func TestS4Let(t *testing.T) {
	wantRun(t, "fn f(x: []) = let y = x + 1 in y * y;", one(16), one(3))
	wantRun(t, "fn f(x: []) = let x = x + 1 in x * x;", one(16), one(3))
	wantRun(t, "fn f(x: []) = (let x = x + 1 in x * x) - x;", one(13), one(3))
	wantRun(t, "fn f(x: []) = x - (let x = x + 1 in x * x);", one(-13), one(3))
	wantRun(t, "fn f(x: []) = let y = (let x = x + 1 in x * x) in y - x;", one(13), one(3))
	wantRun(t, "fn f(x: []) = let y = 5 in (let y = y * 2 in y) + y + x;", one(18), one(3))
	wantRun(t, "fn f(x: []) = let y = x in let x = y + 1 in let y = x * x in x - y;", one(-12), one(3))
	wantRun(t, "fn f(x: []) = let y = 1 in x;", one(3), one(3))
	// What is let is worked out, even if nobody asks for it; ahead of the rest.
	wantError(t, "fn f(x: []) = let y = sum{0}(x) in x;", api.ErrShape, one(3))
	wantError(t, "fn f(x: []) = let y = sum{0}(x) in repeat 65 z = x with z;", api.ErrShape, one(3))
	wantError(t, "fn f(x: []) = let y = (repeat 65 z = x with z) in sum{0}(x);", api.ErrRange, one(3))
}

func TestS4Repeat(t *testing.T) {
	wantRun(t, "fn f(x: []) = repeat 0 y = x with y * 2;", one(3), one(3))
	wantRun(t, "fn f(x: []) = repeat 1 y = x with y * 2;", one(6), one(3))
	wantRun(t, "fn f(x: []) = repeat 5 y = x with y * 2;", one(96), one(3))
	wantRun(t, "fn f(x: []) = repeat 64 y = x with y + 1;", one(67), one(3))
	wantRun(t, "fn f(x: []) = repeat 3 y = x with x;", one(3), one(3))
	wantRun(t, "fn f(x: []) = repeat 3 x = x with x * x;", one(6561), one(3))
	wantRun(t, "fn f(x: []) = (repeat 3 x = x with x + 1) * x;", one(18), one(3))
	wantRun(t, "fn f(x: []) = repeat 3 y = x with repeat 2 y = y with y + x;", one(21), one(3))
	wantRun(t, "fn f(x: []) = repeat 2 y = x with (repeat 2 y = y + 1 with y * 2) - y;", one(3*9+12+4), one(3))
	// Its dimensions may change from turn to turn.
	wantRun(t, "fn f(x: [n]) = repeat 3 y = x with join{0}(y, y);", row(7, 7, 7, 7, 7, 7, 7, 7), row(7))
	wantError(t, "fn f(x: [n]) = repeat 13 y = x with join{0}(y, y);", api.ErrRange, row(7))
	wantError(t, "fn f(x: [n m]) = repeat 2 y = x with sum{1}(y);", api.ErrShape, from(2, 2))
	// Of no turns nothing is worked out but what it is at first.
	wantRun(t, "fn f(x: []) = repeat 0 y = x with sum{0}(y);", one(3), one(3))
	wantError(t, "fn f(x: []) = repeat 0 y = sum{0}(x) with y;", api.ErrShape, one(3))
	wantError(t, "fn f(x: []) = repeat 1 y = x with sum{0}(y);", api.ErrShape, one(3))
	// Too many turns, whatever else is wrong.
	wantError(t, "fn f(x: []) = repeat 65 y = x with y;", api.ErrRange, one(3))
	wantError(t, "fn f(x: []) = repeat 9223372036854775807 y = x with y;", api.ErrRange, one(3))
	wantError(t, "fn f(x: []) = repeat 65 y = sum{0}(x) with y;", api.ErrRange, one(3))
	wantError(t, "fn f(x: []) = repeat 64 y = sum{0}(x) with y;", api.ErrShape, one(3))
	wantError(t, "fn f(x: []) = repeat 2 y = x with repeat 65 z = y with z;", api.ErrRange, one(3))
	wantRun(t, "fn f(x: []) = repeat 0 y = x with repeat 65 z = y with z;", one(3), one(3))
}

func TestS4CallsOfFunctions(t *testing.T) {
	wantRun(t, "fn g() = 7; fn f(x: []) = g() + x;", one(10), one(3))
	wantRun(t, "fn g(x: []) = x * x; fn f(x: []) = g(x + 1) - x;", one(13), one(3))
	wantRun(t, "fn g(x: [], y: []) = x - y; fn f(x: [], y: []) = g(y, x);", one(4), one(3), one(7))
	wantRun(t, "fn g(y: []) = let x = y in x + 1; fn f(x: []) = g(9) + x;", one(13), one(3))
	wantRun(t, "fn f(x: []) = x; fn g(f: []) = f(f + 1) + f;", one(7), one(3))
	wantRun(t, "fn a(x: []) = x + 1; fn b(x: []) = a(a(x)); fn c(x: []) = b(b(x)); fn d(x: []) = c(a(x)) * b(x);", one(8*5), one(3))
	wantRun(t, program("fn sq(x: [n]) = x * x;", "fn f(x: [n], y: [n m]) = let s = sq(x) in dot{0}{0}(s + 1, y) - sum{0}(x);"),
		row(71, 98, 125), row(3, 4), from(2, 3))
	// Arguments are worked out ahead of looking whether they fit, even such as nobody asks for.
	const g = "fn g(x: [n], y: [n]) = 1;"
	wantError(t, program(g, "fn f(x: []) = g(x, repeat 65 z = x with z);"), api.ErrRange, one(3))
	wantError(t, program(g, "fn f(x: []) = g(sum{0}(x), repeat 65 z = x with z);"), api.ErrShape, one(3))
	wantError(t, program(g, "fn f(x: []) = g(repeat 65 z = x with z, sum{0}(x));"), api.ErrRange, one(3))
	wantError(t, program("fn g(x: [n]) = repeat 65 y = x with y;", "fn f(x: []) = g(x);"), api.ErrShape, one(3))
	wantError(t, program("fn g(x: []) = repeat 65 y = x with y;", "fn f(x: []) = g(x);"), api.ErrRange, one(3))
}

// From the left on: the first error that comes is told.
func TestS4Order(t *testing.T) {
	const shape, much = "sum{0}(x)", "(repeat 65 z = x with z)"
	for _, s := range []string{"A + B", "A - B", "A * B", "max(A, B)", "less(A, B)", "pick(A, B, x)", "pick(x, A, B)", "pick(A, x, B)",
		"dot{9}{9}(A, B)", "join{9}(A, B)", "join{9}(x, A, x, B)", "take(A, B)", "put[9](A, B)", "let y = A in B", "repeat 1 y = A with B", "x + A + B", "A + x * B"} {
		wantError(t, "fn f(x: []) = "+strings.NewReplacer("A", shape, "B", much).Replace(s)+";", api.ErrShape, one(1))
		wantError(t, "fn f(x: []) = "+strings.NewReplacer("A", much, "B", shape).Replace(s)+";", api.ErrRange, one(1))
	}
	// Arguments are worked out ahead of what is wrong with the operation itself.
	for _, s := range []string{"sum{9}(A)", "turn{9}(A)", "flip{9}(A)", "reform[9](A)", "spread[9]{9}(A)", "cut{}{}{9}(A)", "pad{}{}{9}(A)", "join{9}(A)"} {
		wantError(t, "fn f(x: []) = "+strings.ReplaceAll(s, "A", much)+";", api.ErrRange, one(1))
		wantError(t, "fn f(x: []) = "+strings.ReplaceAll(s, "A", "x")+";", api.ErrShape, one(1))
	}
}
