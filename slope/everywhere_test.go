package slope_test

import (
	"fmt"
	"math"
	"math/rand/v2"
	"slices"
	"sync"
	"testing"

	"adjoint/api"
	"adjoint/graph"
	"adjoint/slope"
)

// both are the two calls.
func both() map[string]func(api.Graph) (api.Graph, api.Errno) {
	return map[string]func(api.Graph) (api.Graph, api.Errno){"Forward": slope.Forward, "Reverse": slope.Reverse}
}

// every is a graph with each kind in it, of which all is given.
func every() api.Graph {
	g := giving(nil, par(0, 2, 3), par(1, 2, 3), par(2, 2))
	for _, node := range []api.Node{
		fill(7, 2, 3), node(api.Add, 0, 1), node(api.Sub, 0, 1), node(api.Mul, 0, 1), node(api.Max, 0, 1), node(api.Less, 0, 1), node(api.Pick, 0, 1, 3),
		on(api.Op{Kind: api.Spread, Dims: l(2, 3), At: l(0)}, 2), sum(1, 0), on(api.Op{Kind: api.Turn, At: l(1, 0)}, 1), on(api.Op{Kind: api.Reform, Dims: l(6)}, 0), on(api.Op{Kind: api.Flip, At: l(0, 1)}, 0),
		on(api.Op{Kind: api.Cut, Lo: l(0, 1), Hi: l(2, 3), Step: l(1, 2)}, 0), on(api.Op{Kind: api.Pad, Lo: l(0, 1), Hi: l(2, 3), Step: l(1, 2)}, 0),
		on(api.Op{Kind: api.Dot, At: l(1), Step: l(1)}, 0, 1), on(api.Op{Kind: api.Dot, Lo: l(1), Hi: l(1), At: l(0), Step: l(0)}, 0, 1), on(api.Op{Kind: api.Dot, Lo: l(1), Hi: l(0)}, 1, 12),
		on(api.Op{Kind: api.Join, At: l(1)}, 0, 1, 0), node(api.Take, 0, 2), on(api.Op{Kind: api.Put, Dims: l(2)}, 0, 2),
	} {
		g.Nodes = append(g.Nodes, node)
	}
	for k := range g.Nodes {
		g.Outs = append(g.Outs, k)
	}
	return g
}

func TestEvery(t *testing.T) {
	d := dice{rand.New(rand.NewPCG(11, 21))}
	g := every()
	for range 20 {
		byHand(t, g, d.arrays(paramDims(g)), d.arrays(paramDims(g)), d.arrays(outDims(t, g)))
	}
}

// roomy is a list with room behind it, in which something stands.
func roomy[T any](list []T, with T) []T {
	return append(slices.Clone(list), with, with, with)[:len(list)]
}

// roomyGraph is a graph of which every list has room behind it.
func roomyGraph(g api.Graph) api.Graph {
	out := api.Graph{Nodes: roomy(g.Nodes, api.Node{Args: l(-7)}), Outs: roomy(g.Outs, -7)}
	for i, node := range out.Nodes {
		op := node.Op
		op.Dims, op.At, op.Lo, op.Hi, op.Step = roomy(op.Dims, -7), roomy(op.At, -7), roomy(op.Lo, -7), roomy(op.Hi, -7), roomy(op.Step, -7)
		out.Nodes[i] = api.Node{Op: op, Args: roomy(node.Args, -7)}
	}
	return out
}

// listsOf are all lists of numbers of a graph.
func listsOf(g api.Graph) [][]int {
	all := [][]int{g.Outs}
	for _, node := range g.Nodes {
		all = append(all, node.Op.Dims, node.Op.At, node.Op.Lo, node.Op.Hi, node.Op.Step, node.Args)
	}
	return all
}

// allOf shows a graph with the room behind each of its lists.
func allOf(g api.Graph) string {
	out := fmt.Sprint(g.Nodes[:cap(g.Nodes)])
	for _, list := range listsOf(g) {
		out += fmt.Sprint(list[:cap(list)])
	}
	return out
}

// spoil writes over a list, its spare room too.
func spoil[T any](list []T, with T) {
	list = list[:cap(list)]
	for k := range list {
		list[k] = with
	}
}

func spoilGraph(g api.Graph) {
	for _, list := range listsOf(g) {
		spoil(list, -99)
	}
	spoil(g.Nodes, api.Node{})
}

// apart: no two lists share memory, their spare room among it: each is written over with a number of its own, then all of them are looked at.
func apart(t *testing.T, what string, all [][]int) {
	t.Helper()
	for k, list := range all {
		spoil(list, k)
	}
	for k, list := range all {
		if slices.ContainsFunc(list[:cap(list)], func(n int) bool { return n != k }) {
			t.Errorf("%s: two lists of one answer share memory", what)
		}
	}
}

// E2: what is handed in is only read, the room behind it too; what is answered shares nothing with it.
func TestE2OnlyRead(t *testing.T) {
	for what, call := range both() {
		for _, of := range []api.Graph{every(), giving(l(0, 0), par(0, 2, 3)), giving(nil, par(0, 2, 3)), giving(l(1), par(0, 2, 3), node(api.Mul, 0, 0))} {
			g := roomyGraph(of)
			was := allOf(g)
			got, err := call(g)
			gotWas := allOf(got)
			again, _ := call(g)
			if err != api.OK || allOf(g) != was || allOf(again) != gotWas {
				t.Errorf("%s: %d comes, or what was handed in is changed, or it answers otherwise the second time", what, err)
			}
			spoilGraph(again)
			if allOf(g) != was || allOf(got) != gotWas {
				t.Errorf("%s: what was handed in, or the first answer, changes with the second one", what)
			}
			spoilGraph(g)
			if allOf(got) != gotWas {
				t.Errorf("%s: the answer changes with what was handed in", what)
			}
			apart(t, what, listsOf(got))
		}
	}
}

// E3: nil and a list without entries are the same.
func TestE3NilAndEmpty(t *testing.T) {
	for _, none := range [][]int{nil, {}, make([]int, 0, 3)} {
		for _, nodes := range [][]api.Node{nil, {}, make([]api.Node, 0, 3)} {
			wantAhead(t, api.Graph{Nodes: nodes, Outs: none}, nil, nil)
			wantBackward(t, api.Graph{Nodes: nodes, Outs: none}, nil, nil)
		}
		x := api.Node{Op: api.Op{Kind: api.Param, Dims: none, At: l(0), Lo: none}, Args: none}
		wantBackward(t, giving(none, x), arrays(one(3)), nil, one(0))
		full := api.Node{Op: api.Op{Kind: api.Fill, Dims: none, Value: 2}, Args: none}
		wantAhead(t, giving(l(0), full), nil, nil, one(0))
		for _, kind := range []int{api.Spread, api.Sum, api.Turn, api.Reform, api.Cut, api.Pad, api.Flip} {
			g := giving(l(1), x, api.Node{Op: api.Op{Kind: kind, Dims: none, At: none, Lo: none, Hi: none, Step: none}, Args: l(0)})
			wantAhead(t, g, arrays(one(3)), arrays(one(5)), one(5))
			wantBackward(t, g, arrays(one(3)), arrays(one(7)), one(7))
		}
		dot := api.Node{Op: api.Op{Kind: api.Dot, At: none, Lo: none, Hi: none, Step: none}, Args: l(0, 1)}
		wantAhead(t, giving(l(2), x, full, dot), arrays(one(3)), arrays(one(5)), one(10))
		wantBackward(t, giving(l(2), x, full, dot), arrays(one(3)), arrays(one(7)), one(14))
	}
}

// E1, E4: whatever is handed in, nothing panics, and with an error there is nothing else.
func TestE1WhateverIsGiven(t *testing.T) {
	d := dice{rand.New(rand.NewPCG(12, 21))}
	number := func() int {
		return []int{0, 0, 0, 1, 1, 2, 3, -1, 4096, 4097, math.MaxInt, math.MinInt}[d.IntN(12)]
	}
	list := func() []int {
		out := make([]int, d.IntN(3))
		for k := range out {
			out[k] = number()
		}
		return out
	}
	fine := 0
	for range 30000 {
		g := api.Graph{Outs: list()}
		for k := range d.IntN(5) {
			node := api.Node{Op: api.Op{Kind: d.IntN(22), Dims: list(), At: list(), Lo: list(), Hi: list(), Step: list(), Value: int64(number())}, Args: list()}
			switch d.IntN(5) {
			case 0, 1:
				node.Op.Kind, node.Args = api.Fill, nil
			case 2:
				node.Op.Kind, node.Op.At, node.Args = api.Param, l(k), nil
			}
			g.Nodes = append(g.Nodes, node)
		}
		if err := graph.Wrong(g); err != api.OK {
			wantErr(t, show(g), g, err)
			continue
		}
		ahead(t, g)
		backward(t, g)
		fine++
		if t.Failed() {
			return
		}
	}
	if fine < 500 {
		t.Errorf("%d were right", fine)
	}
}

// E1: several calls do not know of one another.
func TestE1AtTheSameTime(t *testing.T) {
	g := every()
	forward, _ := slope.Forward(g)
	reverse, _ := slope.Reverse(g)
	var group sync.WaitGroup
	got := make([]string, 8)
	for k := range got {
		group.Go(func() {
			a, _ := slope.Forward(g)
			b, _ := slope.Reverse(g)
			got[k] = allOf(a) + allOf(b)
		})
	}
	group.Wait()
	for _, s := range got {
		if s != allOf(forward)+allOf(reverse) {
			t.Errorf("%s comes, not %s and %s", cut(s), show(forward), show(reverse))
		}
	}
}
