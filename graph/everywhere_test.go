package graph_test

import (
	"fmt"
	"math"
	"math/rand/v2"
	"slices"
	"testing"

	"adjoint/api"
	"adjoint/graph"
)

// roomy is a list with room behind it, in which something stands.
func roomy[T any](list []T, with T) []T {
	return append(slices.Clone(list), with, with, with)[:len(list)]
}

// roomyGraph is a graph of which every list has room behind it.
func roomyGraph(g api.Graph) api.Graph {
	out := api.Graph{Nodes: roomy(g.Nodes, api.Node{Args: l(-7)}), Outs: roomy(g.Outs, -7)}
	for i, node := range out.Nodes {
		op := node.Op
		op.Dims, op.At, op.Lo, op.Hi, op.Step = roomy(op.Dims, -7), roomy(op.At, -7), roomy(op.Lo, -7), roomy(op.Hi, -7), roomy(op.Step, -7)
		out.Nodes[i] = api.Node{Op: op, Args: roomy(node.Args, -7)}
	}
	return out
}

// listsOf are all lists of numbers of a graph.
func listsOf(g api.Graph) [][]int {
	all := [][]int{g.Outs}
	for _, node := range g.Nodes {
		all = append(all, node.Op.Dims, node.Op.At, node.Op.Lo, node.Op.Hi, node.Op.Step, node.Args)
	}
	return all
}

// allOf shows a graph with the room behind each of its lists.
func allOf(g api.Graph) string {
	out := fmt.Sprint(g.Nodes[:cap(g.Nodes)])
	for _, list := range listsOf(g) {
		out += fmt.Sprint(list[:cap(list)])
	}
	return out
}

// roomyArgs are arguments with room behind each list.
func roomyArgs(args []api.Array) []api.Array {
	out := roomy(args, one(77))
	for i, a := range out {
		out[i] = api.Array{Dims: roomy(a.Dims, 77), Data: roomy(a.Data, 77)}
	}
	return out
}

// allArgs shows arguments with the room behind each list.
func allArgs(args []api.Array) string {
	out := fmt.Sprint(args[:cap(args)])
	for _, a := range args {
		out += fmt.Sprint(a.Dims[:cap(a.Dims)], a.Data[:cap(a.Data)])
	}
	return out
}

// spoil writes over a list, its spare room too.
func spoil[T any](list []T, with T) {
	list = list[:cap(list)]
	for k := range list {
		list[k] = with
	}
}

func spoilGraph(g api.Graph) {
	for _, list := range listsOf(g) {
		spoil(list, -99)
	}
	spoil(g.Nodes, api.Node{})
}

func spoilArgs(args []api.Array) {
	for _, a := range args {
		spoil(a.Dims, -99)
		spoil(a.Data, -99)
	}
	spoil(args, api.Array{})
}

// apart: no two lists share memory, their spare room among it: each is written over with a number of its own, then all of them are looked at.
func apart[T int | int64](t *testing.T, what string, all [][]T) {
	t.Helper()
	for k, list := range all {
		spoil(list, T(k))
	}
	for k, list := range all {
		if slices.ContainsFunc(list[:cap(list)], func(n T) bool { return n != T(k) }) {
			t.Errorf("%s: two lists of one answer share memory", what)
		}
	}
}

// great is every(), in which all nodes are given, some of them twice.
func great() api.Graph {
	g := every()
	for k := range g.Nodes {
		g.Outs = append(g.Outs, k)
	}
	return g
}

// E2: what is handed in is only read, the room behind it too; what is answered shares nothing with it.
func TestE2Graphs(t *testing.T) {
	other := giving(nil)
	dims, _ := graph.Dims(great())
	for k, at := range great().Outs {
		other.Nodes = append(other.Nodes, par(k, dims[at]...))
		other.Outs = append(other.Outs, k, k)
	}
	other.Nodes = append(other.Nodes, node(api.Add, 1, 1))
	for what, call := range map[string]func(f, g api.Graph) (api.Graph, api.Errno){
		"Tidy":  func(f, g api.Graph) (api.Graph, api.Errno) { return graph.Tidy(f) },
		"After": graph.After,
	} {
		f, g := roomyGraph(great()), roomyGraph(other)
		was := allOf(f) + allOf(g)
		got, err := call(f, g)
		gotWas := allOf(got)
		again, _ := call(f, g)
		if err != api.OK || allOf(f)+allOf(g) != was || show(again) != show(got) {
			t.Errorf("%s: %d comes, or what was handed in is changed, or it answers otherwise the second time", what, err)
		}
		spoilGraph(again)
		if allOf(f)+allOf(g) != was || allOf(got) != gotWas {
			t.Errorf("%s: what was handed in, or the first answer, changes with the second one", what)
		}
		spoilGraph(f)
		spoilGraph(g)
		if allOf(got) != gotWas {
			t.Errorf("%s: the answer changes with what was handed in", what)
		}
		apart(t, what, listsOf(got))
	}
}

// E2: one graph may stand in both places.
func TestE2OneGraphTwice(t *testing.T) {
	g := roomyGraph(chain(3))
	was := allOf(g)
	got, err := graph.After(g, g)
	isGraph(t, "After", chain(6))(got, err)
	apart(t, "After", listsOf(got))
	if allOf(g) != was {
		t.Error("what was handed in is changed")
	}
}

func TestE2Dims(t *testing.T) {
	g := roomyGraph(great())
	was := allOf(g)
	got, err := graph.Dims(g)
	gotWas := fmt.Sprint(got)
	again, _ := graph.Dims(g)
	for _, dims := range again {
		spoil(dims, -99)
	}
	weight, weightErr := graph.Weight(g)
	if err != api.OK || weightErr != api.OK || weight == 0 || graph.Wrong(g) != api.OK || graph.Params(g) != 3 || allOf(g) != was || fmt.Sprint(got) != gotWas {
		t.Errorf("%d, %d comes, or what was handed in is changed", err, weightErr)
	}
	spoilGraph(g)
	if fmt.Sprint(got) != gotWas {
		t.Errorf("the answer changes with what was handed in")
	}
	apart(t, "Dims", got)
}

func TestE2Eval(t *testing.T) {
	g, args := roomyGraph(great()), roomyArgs(everyArgs())
	was, wasArgs := allOf(g), allArgs(args)
	got, err := graph.Eval(g, args)
	gotWas := fmt.Sprint(got)
	again, _ := graph.Eval(g, args)
	if err != api.OK || allOf(g) != was || allArgs(args) != wasArgs || fmt.Sprint(again) != gotWas {
		t.Errorf("%d comes, or what was handed in is changed, or it answers otherwise the second time", err)
	}
	spoilArgs(again)
	if allOf(g) != was || allArgs(args) != wasArgs || fmt.Sprint(got) != gotWas {
		t.Errorf("what was handed in, or the first answer, changes with the second one")
	}
	spoilArgs(args)
	spoilGraph(g)
	if fmt.Sprint(got) != gotWas {
		t.Errorf("the answer changes with what was handed in")
	}
	var data [][]int64
	for _, a := range got {
		data = append(data, a.Data)
	}
	apart(t, "Eval, dims", dimsOf(got))
	apart(t, "Eval, data", data)
}

func TestE2Build(t *testing.T) {
	for _, body := range []string{"x", "y", "x * y", "flip{0 1}(x) - turn{1 0}(y)", "h(x) + h(y) + 1", "sum{0}(x + 2) * h(y)", "repeat 3 z = x with z * y", "join{0}(x, y, x)", "cut{0 0}{2 1}{1 1}(pad{1 0}{0 1}{1 1}(x))", "spread[3 4]{1}(put[4](x, y))"} {
		p := read(t, "fn h(x: [n m]) = dot{0}{0}{1}{1}(x, x); fn f(x: [n m], y: [2 2]) = "+body+";")
		for i := range p {
			roomyLists(&p[i].Body)
		}
		was := fmt.Sprintf("%+v", p)
		dims := roomy([][]int{roomy(l(2, 2), 77), roomy(l(2, 2), 77)}, l(77))
		got, err := graph.Build(p, "f", dims)
		gotWas := allOf(got)
		again, _ := graph.Build(p, "f", dims)
		if err != api.OK || show(again) != show(got) {
			t.Errorf("%s: %d comes, or it answers otherwise the second time", body, err)
		}
		spoilGraph(again)
		if fmt.Sprintf("%+v", p) != was || fmt.Sprint(dims[:5], dims[0][:5], dims[1][:5]) != "[[2 2] [2 2] [77] [77] [77]] [2 2 77 77 77] [2 2 77 77 77]" || allOf(got) != gotWas {
			t.Errorf("%s: what was handed in, or the first answer, is changed", body)
		}
		for _, list := range dims {
			spoil(list, -99)
		}
		for i := range p {
			spoilLists(&p[i].Body)
		}
		if allOf(got) != gotWas {
			t.Errorf("%s: the answer changes with what was handed in", body)
		}
		apart(t, body, listsOf(got))
	}
}

// roomyLists gives the lists of a tree room behind them.
func roomyLists(t *api.Tree) {
	for i, list := range t.Lists {
		t.Lists[i] = roomy(list, 77)
	}
	for i := range t.Kids {
		roomyLists(&t.Kids[i])
	}
}

func spoilLists(t *api.Tree) {
	for _, list := range t.Lists {
		spoil(list, -99)
	}
	for i := range t.Kids {
		spoilLists(&t.Kids[i])
	}
}

// E3: nil and a list without entries are the same.
func TestE3NilAndEmpty(t *testing.T) {
	for _, none := range [][]int{nil, {}, make([]int, 0, 3)} {
		for _, nodes := range [][]api.Node{nil, {}, make([]api.Node, 0, 3)} {
			wantTidy(t, api.Graph{Nodes: nodes, Outs: none}, giving(nil))
			wantDims(t, api.Graph{Nodes: nodes, Outs: none})
			wantEval(t, api.Graph{Nodes: nodes, Outs: none}, []api.Array{})
		}
		op := api.Op{Kind: api.Dot, Dims: none, At: none, Lo: none, Hi: none, Step: none}
		p := api.Node{Op: api.Op{Kind: api.Param, Dims: none, At: l(0), Lo: none}, Args: none}
		g := giving(l(1, 2, 3), p, on(op, 0, 0), on(api.Op{Kind: api.Dot}, 0, 0), api.Node{Op: api.Op{Kind: api.Fill, Dims: none}, Args: none})
		wantDims(t, g, nil, nil, nil, nil)
		wantTidy(t, g, giving(l(1, 1, 2), par(0), on(api.Op{Kind: api.Dot}, 0, 0), fill(0)))
		wantEval(t, g, arrays(of(none, 5)), one(25), one(25), one(0))
		isGraph(t, "After", giving(l(1, 1, 2), par(0), on(api.Op{Kind: api.Dot}, 0, 0), fill(0)))(graph.After(giving(l(0), p), g))
		isGraph(t, "Build", giving(l(1), par(0), sum1(0)))(graph.Build(read(t, "fn f(x: []) = sum{}(x);"), "f", [][]int{none}))
	}
	for _, dims := range [][][]int{nil, {}, make([][]int, 0, 3)} {
		isGraph(t, "Build", giving(l(0), fill(1)))(graph.Build(read(t, "fn f() = 1;"), "f", dims))
	}
}

// E1, E4: whatever is handed in, nothing panics, and with an error there is nothing else.
func TestE1WhateverIsGiven(t *testing.T) {
	d := dice{rand.New(rand.NewPCG(8, 14))}
	number := func() int {
		return []int{0, 0, 0, 1, 1, 2, 3, -1, 4096, 4097, math.MaxInt, math.MinInt}[d.IntN(12)]
	}
	list := func() []int {
		out := make([]int, d.IntN(3))
		for k := range out {
			out[k] = number()
		}
		return out
	}
	odd := func() api.Graph {
		g := api.Graph{Outs: list()}
		for k := range d.IntN(5) {
			node := api.Node{Op: api.Op{Kind: d.IntN(22), Dims: list(), At: list(), Lo: list(), Hi: list(), Step: list(), Value: int64(number())}, Args: list()}
			switch d.IntN(5) {
			case 0, 1:
				node.Op.Kind, node.Args = api.Fill, nil
			case 2:
				node.Op.Kind, node.Op.At, node.Args = api.Param, l(k), nil
			}
			g.Nodes = append(g.Nodes, node)
		}
		return g
	}
	fine := 0
	for range 100000 {
		f, g := odd(), odd()
		wrong, _ := wrongByHand(f)
		wrongG, _ := wrongByHand(g)
		var args []api.Array
		for range d.IntN(3) {
			args = append(args, api.Array{Dims: list(), Data: make([]int64, d.IntN(3))})
		}
		dims, err := graph.Dims(f)
		tidy, tidyErr := graph.Tidy(f)
		weight, weightErr := graph.Weight(f)
		if graph.Wrong(f) != wrong[0] || err != wrong[0] || tidyErr != wrong[0] || weightErr != wrong[0] || err != api.OK && (dims != nil || len(tidy.Nodes)+len(tidy.Outs) > 0 || weight != 0) {
			t.Fatalf("%s: %d, %d, %d comes, not %d", show(f), err, tidyErr, weightErr, wrong[0])
		}
		given, err := graph.Eval(f, args)
		if err != api.OK && len(given) > 0 || wrong[0] != api.OK && err != wrong[0] || err == api.OK && len(given) != len(f.Outs) {
			t.Fatalf("Eval of %s with %v: %v, %d comes", show(f), args, given, err)
		}
		both, err := graph.After(f, g)
		if err != api.OK && len(both.Nodes)+len(both.Outs) > 0 || wrong[0] != api.OK && err != wrong[0] || wrong[0] == api.OK && wrongG[0] != api.OK && err != wrongG[0] {
			t.Fatalf("After of %s and %s: %s, %d comes", show(f), show(g), show(both), err)
		}
		if err == api.OK && len(both.Nodes) > 0 {
			fine++
		}
	}
	if fine < 100 {
		t.Errorf("%d were right", fine)
	}
}

// E1: what is as deep, or branches as often, as it may is gone through once.
func TestE1DeepAndWide(t *testing.T) {
	// Each node needs the one ahead of it three times: there are 3 to the power of 4,095 ways down.
	g := giving(l(4095, 4095), par(0))
	for k := range 4095 {
		g.Nodes = append(g.Nodes, node(api.Pick, k, k, k))
	}
	wantTidy(t, g, g)
	wantEval(t, g, arrays(one(5)), one(5), one(5))
	noGraph(t, "After", api.ErrMany)(graph.After(g, chain(4095)))
	g.Outs = l(4095)
	noGraph(t, "After", api.ErrMuch)(graph.After(g, chain(4095)))
	// As many of Outs as there may be of anything.
	g.Outs = slices.Repeat(l(4095), 100000)
	wantEval(t, g, arrays(one(5)), slices.Repeat(arrays(one(5)), 100000)...)
}

// No call knows of another one: what one was given changes nothing about what the next one answers.
func TestE1NothingIsKept(t *testing.T) {
	want := every1()
	for range 3 {
		isGraph(t, "Tidy", want)(graph.Tidy(every()))
		graph.Tidy(chain(50))
		graph.Build(read(t, "fn f(x: [2]) = x * x;"), "f", [][]int{l(2)})
		graph.After(chain(3), chain(4))
		graph.Eval(giving(l(9)), nil)
	}
}
