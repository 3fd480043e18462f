package alike_test

import (
	"fmt"
	"math"
	"math/rand/v2"
	"slices"
	"sync"
	"testing"

	"adjoint/alike"
	"adjoint/api"
	"adjoint/graph"
)

// roomy is a list with room behind it, in which something stands.
func roomy[T any](list []T, with T) []T {
	return append(slices.Clone(list), with, with, with)[:len(list)]
}

// roomyGraph is a graph of which every list has room behind it.
func roomyGraph(g api.Graph) api.Graph {
	out := api.Graph{Nodes: roomy(g.Nodes, api.Node{Args: l(-7)}), Outs: roomy(g.Outs, -7)}
	for i, node := range out.Nodes {
		op := node.Op
		op.Dims, op.At, op.Lo, op.Hi, op.Step = roomy(op.Dims, -7), roomy(op.At, -7), roomy(op.Lo, -7), roomy(op.Hi, -7), roomy(op.Step, -7)
		out.Nodes[i] = api.Node{Op: op, Args: roomy(node.Args, -7)}
	}
	return out
}

// listsOf are all lists of numbers of a graph.
func listsOf(g api.Graph) [][]int {
	all := [][]int{g.Outs}
	for _, node := range g.Nodes {
		all = append(all, node.Op.Dims, node.Op.At, node.Op.Lo, node.Op.Hi, node.Op.Step, node.Args)
	}
	return all
}

// allOf shows a graph with the room behind each of its lists.
func allOf(g api.Graph) string {
	out := fmt.Sprint(g.Nodes[:cap(g.Nodes)])
	for _, list := range listsOf(g) {
		out += fmt.Sprint(list[:cap(list)])
	}
	return out
}

// spoil writes over a list, its spare room too.
func spoil[T any](list []T, with T) {
	list = list[:cap(list)]
	for k := range list {
		list[k] = with
	}
}

func spoilGraph(g api.Graph) {
	for _, list := range listsOf(g) {
		spoil(list, -99)
	}
	spoil(g.Nodes, api.Node{})
}

// apart: no two lists share memory, their spare room among it: each is written over with a number of its own, then all of them are looked at.
func apart(t *testing.T, what string, all [][]int) {
	t.Helper()
	for k, list := range all {
		spoil(list, k)
	}
	for k, list := range all {
		if slices.ContainsFunc(list[:cap(list)], func(n int) bool { return n != k }) {
			t.Errorf("%s: two lists of one answer share memory", what)
		}
	}
}

// shared is a graph whose best form has many lists that stand in several forms: numbers with the dimensions of one class, one operation on several classes.
func shared() api.Graph {
	x, y := par(0, 2, 3), par(1, 2, 3)
	n := func(v int64) term { return fill(v, 2, 3) }
	return giving(less(add(n(2), n(3)), mul(n(5), n(7))), turn(less(x, y), 1, 0), sum(add(x, turn(turn(y, 1, 0), 1, 0)), 0), sum(less(x, y), 0), less(x, n(9)), spread(fill(4), l(2, 3)), x, y, y)
}

// E2: what is handed in is only read, the room behind it too; what is answered shares nothing with it.
func TestE2OnlyRead(t *testing.T) {
	for rounds, of := range []func() api.Graph{every, shared, shared, every} {
		g := roomyGraph(of())
		was := allOf(g)
		best, err := alike.Best(g, rounds)
		bestWas := allOf(best)
		again, _ := alike.Best(g, rounds)
		classes, _ := alike.Classes(g, rounds)
		classesWas := fmt.Sprint(classes[:cap(classes)])
		moreClasses, _ := alike.Classes(g, rounds)
		least, _ := alike.Least(g, rounds)
		leastWas := fmt.Sprint(least[:cap(least)])
		moreLeast, _ := alike.Least(g, rounds)
		many, formsErr := alike.Forms(g, rounds)
		if err != api.OK || formsErr != api.OK || many < len(classes) || allOf(g) != was || allOf(again) != bestWas {
			t.Errorf("%d rounds: %d, %d comes, or what was handed in is changed, or it answers otherwise the second time", rounds, err, formsErr)
		}
		spoilGraph(again)
		spoil(moreClasses, -99)
		spoil(moreLeast, -99)
		if allOf(g) != was {
			t.Errorf("%d rounds: what was handed in changes with the answer", rounds)
		}
		spoilGraph(g)
		if allOf(best) != bestWas || fmt.Sprint(classes[:cap(classes)]) != classesWas || fmt.Sprint(least[:cap(least)]) != leastWas {
			t.Errorf("%d rounds: the answer changes with what was handed in, or with another answer", rounds)
		}
		apart(t, fmt.Sprint(rounds, " rounds"), listsOf(best))
	}
}

// E3: nil and a list without entries are the same.
func TestE3NilAndEmpty(t *testing.T) {
	for _, none := range [][]int{nil, {}, make([]int, 0, 3)} {
		for _, nodes := range [][]api.Node{nil, {}, make([]api.Node, 0, 3)} {
			g := api.Graph{Nodes: nodes, Outs: none}
			wantClasses(t, g, 4)
			wantForms(t, g, 0, 0)
			wantLeast(t, g, 4)
		}
		x := api.Node{Op: api.Op{Kind: api.Param, Dims: none, At: l(0), Lo: none}, Args: none}
		of := func(kind int) api.Node {
			return api.Node{Op: api.Op{Kind: kind, Dims: none, At: none, Lo: none, Hi: none, Step: none}, Args: l(0)}
		}
		bare := func(kind int) api.Node { return api.Node{Op: api.Op{Kind: kind}, Args: l(0)} }
		g := api.Graph{Nodes: []api.Node{x, of(api.Sum), bare(api.Sum), bare(api.Flip), of(api.Flip), of(api.Turn), bare(api.Turn), bare(api.Reform), of(api.Reform)}, Outs: upTo(9)}
		wantClasses(t, g, 0, 0, 1, 2, 3, 4)
		wantClasses(t, g, 1, 0, 0, 0, 0, 0)
		wantForms(t, g, 5, 5)
		wantLeast(t, g, 1, make([]int, 9)...)
		fills := api.Graph{Nodes: []api.Node{{Op: api.Op{Kind: api.Fill, Dims: none}, Args: none}, {Op: api.Op{Kind: api.Spread, At: none, Dims: none}, Args: l(0)}}, Outs: l(1)}
		wantClasses(t, fills, 1, 0, 0)
		wantForms(t, fills, 2, 2)
	}
}

// E1, E4: whatever is handed in, nothing panics, and with an error there is nothing else.
func TestE1WhateverIsGiven(t *testing.T) {
	d := dice{rand.New(rand.NewPCG(8, 18))}
	number := func() int {
		return []int{0, 0, 0, 1, 1, 2, 3, -1, 4096, 4097, math.MaxInt, math.MinInt}[d.IntN(12)]
	}
	list := func() []int {
		out := make([]int, d.IntN(3))
		for k := range out {
			out[k] = number()
		}
		return out
	}
	fine := 0
	for range 30000 {
		g := api.Graph{Outs: list()}
		for k := range d.IntN(5) {
			node := api.Node{Op: api.Op{Kind: d.IntN(22), Dims: list(), At: list(), Lo: list(), Hi: list(), Step: list(), Value: int64(number())}, Args: list()}
			switch d.IntN(5) {
			case 0, 1:
				node.Op.Kind, node.Args = api.Fill, nil
			case 2:
				node.Op.Kind, node.Op.At, node.Args = api.Param, l(k), nil
			}
			g.Nodes = append(g.Nodes, node)
		}
		rounds := d.of(0, 1, 2, 3, 4, -1, 5, math.MaxInt)
		want := graph.Wrong(g)
		if want == api.OK && (rounds < 0 || rounds > 4) {
			want = api.ErrRange
		}
		if want != api.OK {
			wantErr(t, g, rounds, want)
			continue
		}
		wantBest(t, g, rounds)
		fine++
		if t.Failed() {
			return
		}
	}
	if fine < 500 {
		t.Errorf("%d were right", fine)
	}
}

// E1: several calls do not know of one another.
func TestE1AtTheSameTime(t *testing.T) {
	g := shared()
	want, _ := alike.Best(g, 2)
	var group sync.WaitGroup
	got := make([]string, 8)
	for k := range got {
		group.Go(func() {
			best, _ := alike.Best(g, 2)
			got[k] = show(best)
		})
	}
	group.Wait()
	for _, s := range got {
		if s != show(want) {
			t.Errorf("%s comes, not %s", s, show(want))
		}
	}
}
