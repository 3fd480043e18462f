package replay_test

import (
	"fmt"
	"math"
	"math/rand/v2"
	"slices"
	"sync"
	"testing"

	"adjoint/api"
	"adjoint/graph"
	"adjoint/replay"
	"adjoint/slope"
)

// roomy is a list with room behind it, in which something stands.
func roomy[T any](list []T, with T) []T {
	return append(slices.Clone(list), with, with, with)[:len(list)]
}

// whole shows a list with the room behind it.
func whole[T any](list []T) string { return fmt.Sprint(list[:cap(list)]) }

// spoil writes over a list, its spare room too.
func spoil[T any](list []T, with T) {
	list = list[:cap(list)]
	for k := range list {
		list[k] = with
	}
}

func roomyArray(a api.Array) api.Array {
	return api.Array{Dims: roomy(a.Dims, -7), Data: roomy(a.Data, -7)}
}

// roomyGraph is a graph of which every list has room behind it.
func roomyGraph(g api.Graph) api.Graph {
	out := api.Graph{Nodes: roomy(g.Nodes, api.Node{Args: l(-7)}), Outs: roomy(g.Outs, -7)}
	for i, node := range out.Nodes {
		op := node.Op
		op.Dims, op.At, op.Lo, op.Hi, op.Step = roomy(op.Dims, -7), roomy(op.At, -7), roomy(op.Lo, -7), roomy(op.Hi, -7), roomy(op.Step, -7)
		out.Nodes[i] = api.Node{Op: op, Args: roomy(node.Args, -7)}
	}
	return out
}

// listsOf are all lists of numbers of a graph.
func listsOf(g api.Graph) [][]int {
	all := [][]int{g.Outs}
	for _, node := range g.Nodes {
		all = append(all, node.Op.Dims, node.Op.At, node.Op.Lo, node.Op.Hi, node.Op.Step, node.Args)
	}
	return all
}

// allOf shows what is handed to Gradient, with the room behind each list.
func allOf(g api.Graph, x, u api.Array) string {
	out := whole(g.Nodes) + whole(x.Dims) + whole(x.Data) + whole(u.Dims) + whole(u.Data)
	for _, list := range listsOf(g) {
		out += whole(list)
	}
	return out
}

// E2: moves are only read; those that are answered are new each time.
func TestE2Moves(t *testing.T) {
	for _, s := range []string{"", "k0 a b l0 b", "k0 a b l0 b a", "k1", "a a a"} {
		list := roomy(moves(s), api.Move{Do: -7, N: -7})
		was := whole(list)
		first, err := replay.Play(2, 1, list)
		second, again := replay.Play(2, 1, list)
		if whole(list) != was || first != second || err != again {
			t.Errorf("%s: the moves are changed, or it answers otherwise the second time", s)
		}
	}
	for _, c := range [][2]int{{0, 0}, {1, 0}, {5, 2}, {100, 4}} {
		first, _ := replay.Plan(c[0], c[1])
		was := whole(first)
		second, _ := replay.Plan(c[0], c[1])
		if fmt.Sprint(first) != fmt.Sprint(second) {
			t.Errorf("%v: another plan comes the second time", c)
		}
		spoil(second, api.Move{Do: -9})
		if third, _ := replay.Plan(c[0], c[1]); whole(first) != was || fmt.Sprint(third) != fmt.Sprint(first) {
			t.Errorf("%v: one plan changes with another", c)
		}
	}
}

// E2: what is handed in is only read, the room behind it too; what is answered shares nothing with it.
func TestE2Gradient(t *testing.T) {
	for _, g := range []api.Graph{step(t, "x * x - flip{0}(x)", 2), step(t, "x", 2), step(t, "x + x", 2), giving(l(1), par(0, 2), fill(3, 2))} {
		for n := range 4 {
			g, x, u := roomyGraph(g), roomyArray(row(2, 3)), roomyArray(row(1, 5))
			was := allOf(g, x, u)
			got, err := replay.Gradient(g, n, 2, x, u)
			gotWas := whole(got.Dims) + whole(got.Data)
			again, _ := replay.Gradient(g, n, 2, x, u)
			if err != api.OK || allOf(g, x, u) != was || !same(got, again) {
				t.Errorf("%d comes, or what was handed in is changed, or it answers otherwise the second time", err)
			}
			spoil(again.Dims, -9)
			spoil(again.Data, -9)
			if allOf(g, x, u) != was || whole(got.Dims)+whole(got.Data) != gotWas {
				t.Error("what was handed in, or the first answer, changes with the second one")
			}
			for _, list := range append(listsOf(g), x.Dims, u.Dims) {
				spoil(list, -9)
			}
			spoil(x.Data, -9)
			spoil(u.Data, -9)
			spoil(g.Nodes, api.Node{})
			if whole(got.Dims)+whole(got.Data) != gotWas {
				t.Error("the answer changes with what was handed in")
			}
		}
	}
}

// E3: nil and a list without entries are the same.
func TestE3NilAndEmpty(t *testing.T) {
	for _, none := range [][]api.Move{nil, {}, make([]api.Move, 0, 3)} {
		if got, err := replay.Play(0, 0, none); got != 0 || err != api.OK {
			t.Errorf("%d, %d comes", got, err)
		}
		if got, err := replay.Play(1, 0, none); got != 0 || err != api.ErrState {
			t.Errorf("%d, %d comes", got, err)
		}
	}
	nones := [][]int{nil, {}, make([]int, 0, 3)}
	for _, a := range nones {
		for _, b := range nones {
			x := api.Node{Op: api.Op{Kind: api.Param, Dims: a, At: l(0), Lo: b}, Args: a}
			g := giving(l(1), x, api.Node{Op: api.Op{Kind: api.Mul, Dims: b}, Args: l(0, 0)})
			wantGradient(t, g, 2, of(b, 3), of(a, 1), of(nil, 108))
			wantGradient(t, g, 0, of(a, 3), of(b, 1), of(nil, 1))
			wantNoGradient(t, "no Outs", giving(a, x), 2, 1, of(a, 3), of(b, 1), api.ErrMany)
		}
	}
	for _, none := range [][]int64{nil, {}, make([]int64, 0, 3)} {
		wantGradient(t, step(t, "x * x", 0), 2, of(l(0), none...), of(l(0), none...), of(l(0)))
		wantNoGradient(t, "no entries", step(t, "x"), 2, 1, of(nil, none...), one(1), api.ErrShape)
	}
	for _, none := range [][]api.Node{nil, {}, make([]api.Node, 0, 3)} {
		wantNoGradient(t, "no nodes", giving(nil, none...), 2, 1, one(1), one(1), api.ErrMany)
	}
}

// E1, E4: whatever is handed in, nothing panics, and with an error there is nothing else.
func TestE1WhateverIsGiven(t *testing.T) {
	d := dice{rand.New(rand.NewPCG(4, 24))}
	number := func() int {
		if d.IntN(12) > 0 {
			return d.of(0, 1, 1, 2)
		}
		return d.of(-1, 3, 16, 17, 256, 257, 4096, 4097, math.MaxInt, math.MinInt)
	}
	list := func() []int {
		out := make([]int, d.IntN(3))
		for k := range out {
			out[k] = number()
		}
		return out
	}
	array := func(dims []int) api.Array { return of(dims, make([]int64, d.of(1, 1, 1, 2, 2, 0, 4))...) }
	fine := 0
	for range 60000 {
		g := api.Graph{Nodes: []api.Node{par(0, list()...)}, Outs: l(d.IntN(3))}
		for range d.IntN(3) {
			g.Nodes = append(g.Nodes, api.Node{Op: api.Op{Kind: d.of(0, 1, api.Add, api.Mul, api.Sum, api.Flip, 20), Dims: list(), At: list()}, Args: l(0, d.IntN(2))[:1+d.IntN(2)]})
		}
		n, slots, x, u := number(), number(), array(g.Nodes[0].Op.Dims), array(g.Nodes[0].Op.Dims)
		if d.IntN(4) == 0 {
			x, u = array(list()), array(list())
		}
		got, err := replay.Gradient(g, n, slots, x, u)
		if err != api.OK {
			if len(got.Dims)+len(got.Data) > 0 {
				t.Fatalf("%v comes with %d", got, err)
			}
			continue
		}
		fine++
		if _, no := slope.Reverse(g); no != api.OK || graph.Wrong(g) != api.OK || !slices.Equal(got.Dims, x.Dims) || len(got.Data) != len(x.Data) {
			t.Fatalf("%v comes of %v with %v", got, g, x)
		}
	}
	if fine < 500 {
		t.Errorf("%d were right", fine)
	}
}

// E1: several calls do not know of one another.
func TestE1AtTheSameTime(t *testing.T) {
	g, x, u := step(t, "x * x - flip{0}(x)", 2), row(2, 3), row(1, 5)
	all := func() string {
		least, _ := replay.Least(100, 3)
		plan, _ := replay.Plan(100, 3)
		cost, _ := replay.Play(100, 3, plan)
		got, err := replay.Gradient(g, 100, 3, x, u)
		seen, _ := run(100, 3, 7)
		return fmt.Sprint(least, plan, cost, got, err, seen)
	}
	want := all()
	got := make([]string, 8)
	var group sync.WaitGroup
	for k := range got {
		group.Go(func() { got[k] = all() })
	}
	group.Wait()
	for _, s := range got {
		if s != want {
			t.Errorf("another answer comes at the same time")
		}
	}
}
