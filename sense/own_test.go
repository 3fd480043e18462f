package sense_test

import (
	"fmt"
	"slices"
	"strings"
	"testing"

	"adjoint/api"
	"adjoint/array"
)

// ownRow is a row of S1's table: args are how many arguments there may be, from the first number on up to the second.
type ownRow struct {
	name   string
	shaped bool
	lists  []int
	args   [2]int
}

const anyMany = 1 << 30

func ownRows() []ownRow {
	return []ownRow{
		{"max", false, l(0), [2]int{2, 2}},
		{"less", false, l(0), [2]int{2, 2}},
		{"pick", false, l(0), [2]int{3, 3}},
		{"spread", true, l(1), [2]int{1, 1}},
		{"sum", false, l(1), [2]int{1, 1}},
		{"turn", false, l(1), [2]int{1, 1}},
		{"flip", false, l(1), [2]int{1, 1}},
		{"reform", true, l(0), [2]int{1, 1}},
		{"cut", false, l(3), [2]int{1, 1}},
		{"pad", false, l(3), [2]int{1, 1}},
		{"dot", false, l(2, 4), [2]int{2, 2}},
		{"join", false, l(1), [2]int{1, anyMany}},
		{"take", false, l(0), [2]int{2, 2}},
		{"put", true, l(0), [2]int{2, 2}},
	}
}

// wanted is what S2 says of a call of it.
func (r ownRow) wanted(shaped bool, lists, args int) api.Errno {
	switch {
	case shaped != r.shaped || !slices.Contains(r.lists, lists):
		return api.ErrForm
	case args < r.args[0] || args > r.args[1]:
		return api.ErrMany
	}
	return api.OK
}

// callText is a call with so many lists and arguments.
func callText(name, shape string, lists, args int, arg string) string {
	return name + shape + strings.Repeat("{0}", lists) + "(" + strings.Join(slices.Repeat([]string{arg}, args), ", ") + ")"
}

// Each row of the table: with a shape and without one, with any number of lists and of arguments.
func TestS1CallsMustBeWrittenAsTheTableSays(t *testing.T) {
	for _, r := range ownRows() {
		for _, shape := range []string{"", "[]", "[n]", "[n 3]"} {
			for lists := range 6 {
				for _, args := range l(0, 1, 2, 3, 4, 5, 70) {
					want := r.wanted(shape != "", lists, args)
					wantWrong(t, "fn f(x: [n]) = "+callText(r.name, shape, lists, args, "x")+";", want)
					// A name that is unknown in the shape comes behind all of these, what is wrong with an argument behind that.
					if want == api.OK && strings.Contains(shape, "n") {
						want = api.ErrName
					}
					wantWrong(t, "fn f(x: [m]) = "+callText(r.name, shape, lists, args, "x")+";", want)
					if want == api.OK && args > 0 {
						want = api.ErrMany
					}
					wantWrong(t, "fn f(x: [m]) = "+callText(r.name, shape, lists, args, "max()")+";", want)
				}
			}
		}
	}
}

// No function may have such a name; parameters, dimensions and what is let may.
func TestS1NamesAreTheLanguagesOwn(t *testing.T) {
	for _, r := range ownRows() {
		wantWrong(t, fmt.Sprintf("fn %s() = 1;", r.name), api.ErrName)
		wantWrong(t, fmt.Sprintf("fn f() = 1; fn %s(x: []) = x;", r.name), api.ErrName)
		wantWrong(t, fmt.Sprintf("fn %sx() = 1; fn f() = %sx();", r.name, r.name), api.OK)
		s := strings.ReplaceAll("fn f(NAME: [NAME]) = max(let NAME = NAME in NAME, repeat 2 NAME = NAME with reform[NAME](NAME));", "NAME", r.name)
		wantWrong(t, s, api.OK)
		wantRun(t, s, row(3, 4), row(3, 4))
		// As a name alone it stands for nothing.
		wantWrong(t, fmt.Sprintf("fn f() = %s;", r.name), api.ErrName)
	}
	for _, name := range []string{"add", "sub", "mul", "fill", "param", "Max", "SUM", "_", "summ"} {
		wantWrong(t, fmt.Sprintf("fn %s(x: []) = x; fn f() = %s(1);", name, name), api.OK)
		wantWrong(t, fmt.Sprintf("fn f() = %s(1);", name), api.ErrName)
	}
}

// Each of them is the operation of chapter 2 that the table says.
func TestS1WhatTheyAre(t *testing.T) {
	v, w, which := row(3, -4), row(-5, 6), row(0, 7)
	a, b := from(2, 3), from(3, 4)
	three := from(2, 3, 2)
	for _, c := range []struct {
		expr string
		op   api.Op
		args []api.Array
	}{
		{"a + b", api.Op{Kind: api.Add}, arrays(v, w)},
		{"a - b", api.Op{Kind: api.Sub}, arrays(v, w)},
		{"a * b", api.Op{Kind: api.Mul}, arrays(v, w)},
		{"max(a, b)", api.Op{Kind: api.Max}, arrays(v, w)},
		{"less(a, b)", api.Op{Kind: api.Less}, arrays(v, w)},
		{"less(a, b)", api.Op{Kind: api.Less}, arrays(w, v)},
		{"pick(a, b, c)", api.Op{Kind: api.Pick}, arrays(which, v, w)},
		{"spread[2 4 3]{0 2}(a)", api.Op{Kind: api.Spread, Dims: l(2, 4, 3), At: l(0, 2)}, arrays(a)},
		{"spread[2 3]{}(a)", api.Op{Kind: api.Spread, Dims: l(2, 3)}, arrays(one(5))},
		{"spread[]{}(a)", api.Op{Kind: api.Spread}, arrays(one(5))},
		{"sum{0}(a)", api.Op{Kind: api.Sum, At: l(0)}, arrays(a)},
		{"sum{0 1}(a)", api.Op{Kind: api.Sum, At: l(0, 1)}, arrays(a)},
		{"sum{}(a)", api.Op{Kind: api.Sum}, arrays(a)},
		{"turn{1 0}(a)", api.Op{Kind: api.Turn, At: l(1, 0)}, arrays(a)},
		{"turn{2 0 1}(a)", api.Op{Kind: api.Turn, At: l(2, 0, 1)}, arrays(three)},
		{"flip{1}(a)", api.Op{Kind: api.Flip, At: l(1)}, arrays(a)},
		{"reform[3 2](a)", api.Op{Kind: api.Reform, Dims: l(3, 2)}, arrays(a)},
		{"reform[](a)", api.Op{Kind: api.Reform}, arrays(from(1, 1))},
		{"cut{0 1}{2 3}{1 2}(a)", api.Op{Kind: api.Cut, Lo: l(0, 1), Hi: l(2, 3), Step: l(1, 2)}, arrays(a)},
		{"pad{1 2}{3 0}{2 1}(a)", api.Op{Kind: api.Pad, Lo: l(1, 2), Hi: l(3, 0), Step: l(2, 1)}, arrays(a)},
		{"dot{1}{0}(a, b)", api.Op{Kind: api.Dot, At: l(1), Step: l(0)}, arrays(a, b)},
		{"dot{}{}(a, b)", api.Op{Kind: api.Dot}, arrays(v, w)},
		{"dot{}{}{}{}(a, b)", api.Op{Kind: api.Dot}, arrays(v, w)},
		{"dot{1}{1}{2}{0}(a, b)", api.Op{Kind: api.Dot, At: l(1), Step: l(1), Lo: l(2), Hi: l(0)}, arrays(three, from(2, 3))},
		{"dot{}{}{1}{0}(a, b)", api.Op{Kind: api.Dot, Lo: l(1), Hi: l(0)}, arrays(a, b)},
		{"join{0}(a)", api.Op{Kind: api.Join, At: l(0)}, arrays(a)},
		{"join{1}(a, b, c)", api.Op{Kind: api.Join, At: l(1)}, arrays(a, from(2, 1), from(2, 2))},
		{"take(a, b)", api.Op{Kind: api.Take}, arrays(a, row(1, 0, 1, 9))},
		{"put[4](a, b)", api.Op{Kind: api.Put, Dims: l(4)}, arrays(a, row(1, 3))},
	} {
		want, err := array.Do(c.op, c.args)
		if err != api.OK {
			t.Fatalf("%s: %d", c.expr, err)
		}
		wantRun(t, "fn f("+givenText(c.args)+") = "+c.expr+";", want, c.args...)
	}
}

// givenText are parameters a, b and so on with the ranks of arrays, whose dimensions all have names of their own.
func givenText(args []api.Array) string {
	var out []string
	for i, a := range args {
		var dims []string
		for k := range a.Dims {
			dims = append(dims, fmt.Sprintf("d%d_%d", i, k))
		}
		out = append(out, fmt.Sprintf("%c: [%s]", 'a'+i, strings.Join(dims, " ")))
	}
	return strings.Join(out, ", ")
}

// What chapter 2 says of them is told.
func TestS1WhatIsWrongWithOperations(t *testing.T) {
	v, a := row(3, -4), from(2, 3)
	for _, c := range []struct {
		expr string
		want api.Errno
		args []api.Array
	}{
		{"a + b", api.ErrShape, arrays(v, row(1, 2, 3))},
		{"max(a, b)", api.ErrShape, arrays(v, a)},
		{"pick(a, b, c)", api.ErrShape, arrays(v, v, a)},
		{"pick(a, b, c)", api.ErrShape, arrays(a, v, v)},
		{"spread[3]{0}(a)", api.ErrShape, arrays(v)},
		{"spread[4097]{0}(a)", api.ErrRange, arrays(v)},
		{"spread[1 1 1 1 1 1 1]{0}(a)", api.ErrRank, arrays(v)},
		{"spread[4096 17]{0}(a)", api.ErrMuch, arrays(v)},
		{"spread[9223372036854775807]{0}(a)", api.ErrRange, arrays(v)},
		{"sum{1}(a)", api.ErrShape, arrays(v)},
		{"sum{9223372036854775807}(a)", api.ErrShape, arrays(v)},
		{"turn{0 0}(a)", api.ErrShape, arrays(a)},
		{"flip{2}(a)", api.ErrShape, arrays(a)},
		{"reform[3](a)", api.ErrShape, arrays(v)},
		{"reform[4096 4096](a)", api.ErrMuch, arrays(v)},
		{"cut{0}{3}{1}(a)", api.ErrRange, arrays(v)},
		{"cut{}{}{}(a)", api.ErrShape, arrays(v)},
		{"pad{0}{0}{0}(a)", api.ErrRange, arrays(v)},
		{"pad{4096}{0}{1}(a)", api.ErrRange, arrays(v)},
		{"dot{0}{}(a, b)", api.ErrShape, arrays(v, v)},
		{"dot{}{}{0}{1}(a, b)", api.ErrShape, arrays(v, v)},
		{"join{1}(a)", api.ErrShape, arrays(v)},
		{"join{}(a)", api.ErrShape, arrays(v)},
		{"take(a, b)", api.ErrShape, arrays(one(1), v)},
		{"put[2 2](a, b)", api.ErrShape, arrays(v, v)},
		{"put[](a, b)", api.ErrShape, arrays(v, v)},
		{"put[5000](a, b)", api.ErrRange, arrays(v, v)},
	} {
		wantError(t, "fn f("+givenText(c.args)+") = "+c.expr+";", c.want, c.args...)
	}
}
