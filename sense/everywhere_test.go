package sense_test

import (
	"fmt"
	"math"
	"math/rand/v2"
	"slices"
	"strings"
	"testing"

	"adjoint/api"
	"adjoint/array"
	"adjoint/sense"
)

// whole is a program with every kind of tree, and lists in every place; what f is stands in the place of BODY.
const whole = "fn g(x: [n 2], y: []) = let a = sum{0 1}(x * 2 - y) in repeat 3 b = a with b + dot{0 1}{0 1}{}{}(x, pad{0 0}{0 0}{1 1}(x));" +
	"fn f(x: [n m], y: [], z: [n]) = BODY;"

// bodies are worth something that lies in what is handed in, or is made of it.
var bodies = []string{"x", "y", "z", "let a = x in a", "repeat 2 a = z with a", "repeat 0 a = x with a", "h(x)", "spread[n m]{0 1}(x)", "reform[n m](x)", "g(x, y) + z", "reform[m n](x) * 2"}

// programOf is whole, with this body.
func programOf(t *testing.T, body string) []api.Func {
	return read(t, "fn h(x: [n m]) = x;"+strings.ReplaceAll(whole, "BODY", body))
}

// roomy is a list with room behind it, in which something stands.
func roomy[T any](list []T, with T) []T {
	return append(slices.Clone(list), with, with, with)[:len(list)]
}

// roomyProgram is a program of which every list has room behind it.
func roomyProgram(p []api.Func) []api.Func {
	out := roomy(p, api.Func{Name: "bad"})
	for i, f := range out {
		out[i].Given = roomy(f.Given, api.Given{Name: "bad"})
		for k, g := range out[i].Given {
			out[i].Given[k].Dims = roomy(g.Dims, api.Dim{Size: -7})
		}
		out[i].Body = roomyTree(f.Body)
	}
	return out
}

func roomyTree(t api.Tree) api.Tree {
	t.Shape = roomy(t.Shape, api.Dim{Size: -7})
	t.Lists = roomy(t.Lists, []int{-7})
	for i, list := range t.Lists {
		t.Lists[i] = roomy(list, -7)
	}
	t.Kids = roomy(t.Kids, api.Tree{Kind: -7})
	for i, kid := range t.Kids {
		t.Kids[i] = roomyTree(kid)
	}
	return t
}

// allOf shows a program with the room behind each of its lists.
func allOf(p []api.Func) string {
	out := fmt.Sprintf("%+v", p[:cap(p)])
	for _, f := range p {
		out += fmt.Sprintf("%+v", f.Given[:cap(f.Given)])
		for _, g := range f.Given {
			out += fmt.Sprintf("%+v", g.Dims[:cap(g.Dims)])
		}
		out += allOfTree(f.Body)
	}
	return out
}

func allOfTree(t api.Tree) string {
	out := fmt.Sprintf("%+v%+v%+v", t.Shape[:cap(t.Shape)], t.Lists[:cap(t.Lists)], t.Kids[:cap(t.Kids)])
	for _, list := range t.Lists {
		out += fmt.Sprintf("%+v", list[:cap(list)])
	}
	for _, kid := range t.Kids {
		out += allOfTree(kid)
	}
	return out
}

// roomyArgs are the arguments of f, with room behind each list.
func roomyArgs() []api.Array {
	args := arrays(from(2, 2), one(5), row(6, 7))
	for i, a := range args {
		args[i] = api.Array{Dims: roomy(a.Dims, 77), Data: roomy(a.Data, 77)}
	}
	return roomy(args, one(77))
}

// allArgs shows arguments with the room behind each list.
func allArgs(args []api.Array) string {
	out := fmt.Sprint(args[:cap(args)])
	for _, a := range args {
		out += fmt.Sprint(a.Dims[:cap(a.Dims)], a.Data[:cap(a.Data)])
	}
	return out
}

// spoil writes over a list, its spare room too.
func spoil[T any](list []T, with T) {
	list = list[:cap(list)]
	for k := range list {
		list[k] = with
	}
}

// E2: what is handed in is only read, the room behind it too, and what is answered shares nothing with it.
func TestE2Run(t *testing.T) {
	for _, body := range bodies {
		p := roomyProgram(programOf(t, body))
		args := roomyArgs()
		wasProgram, wasArgs := allOf(p), allArgs(args)
		got, err := sense.Run(p, "f", args)
		if err != api.OK || sense.Wrong(p) != api.OK || allOf(p) != wasProgram || allArgs(args) != wasArgs {
			t.Errorf("%s: %d, or what was handed in is changed", body, err)
		}
		was := fmt.Sprint(got)
		again, err := sense.Run(p, "f", args)
		if err != api.OK || fmt.Sprint(again) != was {
			t.Errorf("%s: the same call answers otherwise: %v, %d, not %s", body, again, err, was)
		}
		spoil(again.Dims, -99)
		spoil(again.Data, -99)
		if allOf(p) != wasProgram || allArgs(args) != wasArgs || fmt.Sprint(got) != was {
			t.Errorf("%s: what was handed in, or the first answer, changes with the second one", body)
		}
		spoilAll(p, args)
		if fmt.Sprint(got) != was {
			t.Errorf("%s: the answer changes with what was handed in", body)
		}
	}
}

func TestE2Check(t *testing.T) {
	for _, body := range bodies {
		p := roomyProgram(programOf(t, body))
		args := roomyArgs()
		dims := roomy(dimsOf(args), l(77))
		wasProgram, wasArgs, wasDims := allOf(p), allArgs(args), fmt.Sprint(dims[:cap(dims)])
		got, err := sense.Check(p, "f", dims)
		if err != api.OK || allOf(p) != wasProgram || allArgs(args) != wasArgs || fmt.Sprint(dims[:cap(dims)]) != wasDims {
			t.Errorf("%s: %d, or what was handed in is changed", body, err)
		}
		was := fmt.Sprint(got)
		again, _ := sense.Check(p, "f", dims)
		spoil(again, -99)
		if allOf(p) != wasProgram || allArgs(args) != wasArgs || fmt.Sprint(got) != was {
			t.Errorf("%s: what was handed in, or the first answer, changes with the second one", body)
		}
		spoilAll(p, args)
		if fmt.Sprint(got) != was {
			t.Errorf("%s: the answer changes with what was handed in", body)
		}
	}
}

// spoilAll writes over all that was handed in.
func spoilAll(p []api.Func, args []api.Array) {
	for _, a := range args {
		spoil(a.Dims, -99)
		spoil(a.Data, -99)
	}
	spoil(args, api.Array{})
	for _, f := range p {
		for _, g := range f.Given {
			spoil(g.Dims, api.Dim{})
		}
		spoil(f.Given, api.Given{})
		spoilTree(f.Body)
	}
	spoil(p, api.Func{})
}

func spoilTree(t api.Tree) {
	spoil(t.Shape, api.Dim{})
	for _, list := range t.Lists {
		spoil(list, -99)
	}
	for _, kid := range t.Kids {
		spoilTree(kid)
	}
	spoil(t.Lists, nil)
	spoil(t.Kids, api.Tree{})
}

// E2: one array may stand in all places.
func TestE2OneArrayTwice(t *testing.T) {
	p := read(t, "fn f(x: [n], y: [n]) = x * y + y;")
	a := row(3, 4)
	got, err := sense.Run(p, "f", arrays(a, a))
	if err != api.OK || !sameArray(got, row(12, 20)) || !sameArray(a, row(3, 4)) {
		t.Errorf("%v, %d comes", got, err)
	}
}

// E3: nil and a list without entries are the same.
func TestE3NilAndEmpty(t *testing.T) {
	for _, none := range [][]int{nil, {}, make([]int, 0, 3)} {
		for _, empty := range [][]int64{nil, {}, make([]int64, 0, 3)} {
			p := []api.Func{{Name: "f", Given: []api.Given{{Name: "x", Dims: []api.Dim{}}, {Name: "v", Dims: []api.Dim{{Name: "n"}}}},
				Body: api.Tree{Kind: api.TreeCall, Name: "sum", Shape: []api.Dim{}, Lists: [][]int{none}, Kids: []api.Tree{
					{Kind: api.TreeTwo, Name: "+", Shape: []api.Dim{}, Lists: [][]int{}, Kids: []api.Tree{name("x"), name("v")}}}}}}
			args := arrays(api.Array{Dims: none, Data: []int64{5}}, api.Array{Dims: l(0), Data: empty})
			got, err := sense.Run(p, "f", args)
			if err != api.OK || !sameArray(got, of(l(0))) {
				t.Errorf("%v, %d comes", got, err)
			}
			dims, err := sense.Check(p, "f", [][]int{none, l(0)})
			if err != api.OK || !slices.Equal(dims, l(0)) {
				t.Errorf("%v, %d comes", dims, err)
			}
			wantNothing(t, "f", api.ErrShape)(sense.Run(p, "f", arrays(api.Array{Dims: none, Data: empty}, api.Array{Dims: l(0), Data: empty})))
		}
	}
	p := []api.Func{{Name: "f", Given: []api.Given{}, Body: num(4)}}
	for _, args := range [][]api.Array{nil, {}, make([]api.Array, 0, 3)} {
		if got, err := sense.Run(p, "f", args); err != api.OK || !sameArray(got, one(4)) {
			t.Errorf("%v, %d comes", got, err)
		}
	}
	for _, dims := range [][][]int{nil, {}, make([][]int, 0, 3)} {
		if got, err := sense.Check(p, "f", dims); err != api.OK || len(got) > 0 {
			t.Errorf("%v, %d comes", got, err)
		}
	}
}

// odd is a tree with odd things in all places.
func (d dice) odd(high int) api.Tree {
	names := []string{"x", "y", "sum", "dot", "join", "reform", "g", "f", "+", "*", "", "let", "\xff"}
	t := api.Tree{Kind: d.IntN(8), Name: d.of(names...), Number: []int64{0, 0, 1, 64, 65, -1, math.MaxInt64, math.MinInt64}[d.IntN(8)], Shaped: d.IntN(3) == 0}
	for range d.IntN(3) * d.IntN(2) {
		t.Shape = append(t.Shape, api.Dim{Name: d.of("", "n", "m"), Size: d.IntN(4) - 1})
	}
	for range d.IntN(3) * d.IntN(2) {
		t.Lists = append(t.Lists, []int{d.IntN(4) - 1})
	}
	for range d.IntN(4) {
		if high > 0 {
			t.Kids = append(t.Kids, d.odd(high-1))
		}
	}
	return t
}

// spare takes most of what makes a tree odd away, so that more of it is looked at.
func (d dice) spare(t api.Tree) api.Tree {
	t.Number = max(t.Number, 0)
	switch t.Kind {
	case api.TreeName:
		t = name(d.of("x", "y"))
	case api.TreeTwo, api.TreeLet, api.TreeRepeat:
		t = api.Tree{Kind: t.Kind, Name: d.of("x", "y"), Number: t.Number, Kids: append(t.Kids, name("x"), name("y"))[:2]}
		if t.Kind == api.TreeTwo {
			t.Name = d.of("+", "*")
		}
		if t.Kind != api.TreeRepeat {
			t.Number = 0
		}
	case api.TreeCall:
		t.Name, t.Number, t.Shaped = d.of("sum", "dot", "join", "g", "take", "reform"), 0, t.Shaped || len(t.Shape) > 0
	default:
		t = num(t.Number)
	}
	for i, kid := range t.Kids {
		t.Kids[i] = d.spare(kid)
	}
	return t
}

// E1, E4: whatever is handed in, nothing panics, and with an error there is nothing else.
func TestE1WhateverIsGiven(t *testing.T) {
	d := dice{rand.New(rand.NewPCG(7, 7))}
	oddDims := [][]int{nil, l(0), l(1), l(2), l(-1), l(2, 2), l(4096, 17), l(math.MaxInt), l(math.MinInt, 0), l(1, 1, 1, 1, 1, 1, 1)}
	for range 20000 {
		p := []api.Func{fn("g", num(1), api.Given{Name: "x"}), fn("f", d.odd(3), api.Given{Name: "x", Dims: []api.Dim{{Name: "n"}}}, api.Given{Name: "y"})}
		if d.IntN(3) > 0 {
			p[1].Body = d.spare(p[1].Body)
		}
		wrong := sense.Wrong(p)
		for _, name := range []string{"f", "g", "sum", ""} {
			var args []api.Array
			for range d.IntN(4) {
				dims := oddDims[d.IntN(len(oddDims))]
				args = append(args, api.Array{Dims: dims, Data: make([]int64, d.IntN(3))})
			}
			if d.IntN(2) == 0 {
				args = arrays(row(1, 2), one(3))
			}
			got, err := sense.Run(p, name, args)
			dims, dimsErr := sense.Check(p, name, dimsOf(args))
			if wrong != api.OK && (err != wrong || dimsErr != wrong) || err != api.OK && !sameArray(got, api.Array{}) || dimsErr != api.OK && len(dims) > 0 {
				t.Fatalf("%s of %+v with %v: %d, %v, %d, %v, %d", name, p, args, wrong, got, err, dims, dimsErr)
			}
			if err == api.OK && (array.Wrong(got) != api.OK || !slices.Equal(got.Dims, dims)) {
				t.Fatalf("%s of %+v with %v: %v, %v", name, p, args, got, dims)
			}
		}
	}
}

// E1: trees that stand for endless ones, or for far too many.
func TestE1SharedKids(t *testing.T) {
	round := make([]api.Tree, 2)
	round[0], round[1] = call("max", round...), num(1)
	many := num(1)
	for range 60 {
		many = call("max", many, many)
	}
	for i, body := range []api.Tree{round[0], many} {
		p := []api.Func{fn("f", body)}
		_, err := sense.Run(p, "f", nil)
		_, dimsErr := sense.Check(p, "f", nil)
		if wrong := sense.Wrong(p); wrong != api.ErrMuch || err != api.ErrMuch || dimsErr != api.ErrMuch {
			t.Errorf("%d: %d, %d, %d comes, not %d", i, wrong, err, dimsErr, api.ErrMuch)
		}
	}
	few := name("x")
	for range 5 {
		few = call("max", few, few)
	}
	p := []api.Func{fn("f", few, api.Given{Name: "x"})}
	if got, err := sense.Run(p, "f", arrays(one(6))); err != api.OK || !sameArray(got, one(6)) {
		t.Errorf("%v, %d comes", got, err)
	}
}

// E1: the deepest and widest programs that can be written are worked out.
func TestE1GreatPrograms(t *testing.T) {
	// Functions that ask one another: there are so many calls within one another.
	lines := []string{"fn g0(x: []) = x;"}
	const last = 2000
	for k := range last {
		lines = append(lines, fmt.Sprintf("fn g%d(x: []) = g%d(x);", k+1, k))
	}
	wantRun(t, strings.Join(lines, "\n")+fmt.Sprintf("fn f(x: []) = g%d(x);", last), one(8), one(8))
	// A join of as many arguments as the text has room for.
	wide := "fn f(x: [n]) = join{0}(x" + strings.Repeat(", x", 21000) + ");"
	wantRun(t, wide, row(), row())
	wantError(t, wide, api.ErrRange, row(1))
	// As many parameters, and a call with all of them, often.
	var given, args []string
	for k := range 3000 {
		given, args = append(given, fmt.Sprintf("x%d: [n]", k)), append(args, "x")
	}
	g := "fn g(" + strings.Join(given, ", ") + ") = x2999;\n"
	wantRun(t, g+"fn f(x: [n]) = repeat 10 y = x with repeat 10 z = y with g("+strings.Join(args, ", ")+");", row(1, 2), row(1, 2))
	// Lets within one another, up to the last level, each with as many signs as there may be.
	deep := ""
	for range 62 {
		deep += "let x = x" + strings.Repeat(" + x * x", 30) + " in "
	}
	wantRun(t, "fn f(x: []) = "+deep+"x;", one(0), one(0))
}
