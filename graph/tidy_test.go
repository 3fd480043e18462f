package graph_test

import (
	"math"
	"slices"
	"testing"

	"adjoint/api"
	"adjoint/array"
	"adjoint/graph"
)

func TestG4Edges(t *testing.T) {
	for _, g := range []api.Graph{
		giving(nil),
		giving(l(0), fill(3)),
		giving(nil, par(0)),
		giving(l(1, 0, 1), par(0, 3), par(1)),
		giving(l(2), par(0, 3), par(1), fill(1)),
		giving(l(1), par(0), node(api.Add, 0, 0)),
		giving(l(2, 0, 2), par(0), par(1), node(api.Add, 1, 1)),
		every1(),
	} {
		wantTidy(t, g, g)
	}
	// Nothing is given: the parameters are all that there is.
	wantTidy(t, giving(nil, fill(3)), giving(nil))
	g := every()
	g.Outs = nil
	wantTidy(t, g, giving(nil, g.Nodes[:3]...))
	// All parameters stay, in their places.
	wantTidy(t, giving(l(4), par(0), par(1), par(2), fill(1), node(api.Mul, 2, 2)), giving(l(3), par(0), par(1), par(2), node(api.Mul, 2, 2)))
	wantTidy(t, giving(l(1), par(0), par(1), node(api.Mul, 0, 0)), giving(l(1), par(0), par(1)))
	// The longest ones.
	wantTidy(t, chain(4095), chain(4095))
	all := giving(l(4095, 0))
	for k := range 4096 {
		all.Nodes = append(all.Nodes, par(k))
	}
	wantTidy(t, all, all)
	wantTidy(t, giving(l(0, 4095, 7), slices.Repeat([]api.Node{fill(1)}, 4096)...), giving(l(0, 0, 0), fill(1)))
}

// every1 is every(), with what it gives last alone, in the order in which that needs it.
func every1() api.Graph {
	// Node 21 needs 18 and 2; 18 needs 17, and that 0 and 12; 12 needs 11, and so on down to 4; 3 comes behind 4.
	return giving(l(15, 0, 3, 3),
		par(0, 2, 3), par(1, 2, 3), par(2, 2),
		node(api.Add, 0, 1), fill(7, 2, 3), node(api.Sub, 3, 4), node(api.Mul, 5, 0), node(api.Max, 6, 1), node(api.Less, 7, 0), node(api.Pick, 8, 6, 7),
		on(api.Op{Kind: api.Spread, Dims: l(4, 2, 3), At: l(1, 2)}, 9),
		on(api.Op{Kind: api.Sum, At: l(0)}, 10),
		on(api.Op{Kind: api.Turn, At: l(1, 0)}, 11),
		on(api.Op{Kind: api.Dot, At: l(1), Step: l(0)}, 0, 12),
		on(api.Op{Kind: api.Dot, Lo: l(0), Hi: l(1)}, 13, 13),
		on(api.Op{Kind: api.Put, Dims: l(5)}, 14, 2),
	)
}

func TestG4OnlyWhatIsNeeded(t *testing.T) {
	wantTidy(t, every(), every1())
	// What is needed only for something that is not.
	wantTidy(t, giving(l(1), par(0), fill(1), fill(2), node(api.Add, 1, 2)), giving(l(1), par(0), fill(1)))
	wantTidy(t, giving(l(4), par(0), fill(1), node(api.Add, 0, 1), fill(2), node(api.Add, 0, 3)), giving(l(2), par(0), fill(2), node(api.Add, 0, 1)))
}

// One of Outs after the other, each node behind its args, these one after the other.
func TestG4Order(t *testing.T) {
	// Behind one another here, in another order there.
	wantTidy(t, giving(l(4), fill(0), fill(1), fill(2), node(api.Add, 2, 1), node(api.Sub, 3, 0)),
		giving(l(4), fill(2), fill(1), node(api.Add, 0, 1), fill(0), node(api.Sub, 2, 3)))
	wantTidy(t, giving(l(4), fill(0), fill(1), fill(2), node(api.Add, 2, 1), node(api.Sub, 0, 3)),
		giving(l(4), fill(0), fill(2), fill(1), node(api.Add, 1, 2), node(api.Sub, 0, 3)))
	wantTidy(t, giving(l(3, 1, 0, 2), fill(0), fill(1), fill(2), fill(3)), giving(l(0, 1, 2, 3), fill(3), fill(1), fill(0), fill(2)))
	wantTidy(t, giving(l(2, 0, 2, 1, 0), fill(0), fill(1), fill(2)), giving(l(0, 1, 0, 2, 1), fill(2), fill(0), fill(1)))
	// What stands already does not come again: not for a later one of Outs, nor for a later arg.
	wantTidy(t, giving(l(1, 3), fill(0), fill(1), fill(2), node(api.Pick, 2, 1, 0)), giving(l(0, 3), fill(1), fill(2), fill(0), node(api.Pick, 1, 0, 2)))
	wantTidy(t, giving(l(3, 1), fill(0), fill(1), fill(2), node(api.Pick, 2, 1, 2)), giving(l(2, 1), fill(2), fill(1), node(api.Pick, 0, 1, 0)))
	// An arg of an arg comes ahead of the next arg.
	wantTidy(t, giving(l(5), fill(0), fill(1), node(api.Mul, 0, 0), node(api.Mul, 1, 1), node(api.Mul, 2, 2), node(api.Pick, 4, 1, 3)),
		giving(l(5), fill(0), node(api.Mul, 0, 0), node(api.Mul, 1, 1), fill(1), node(api.Mul, 3, 3), node(api.Pick, 2, 3, 4)))
	// Parameters stand first, whatever needs them when.
	wantTidy(t, giving(l(4), par(0), par(1), fill(5), node(api.Mul, 2, 1), node(api.Sub, 3, 0)),
		giving(l(4), par(0), par(1), fill(5), node(api.Mul, 2, 1), node(api.Sub, 3, 0)))
	// A node that is given ahead of what it needs.
	wantTidy(t, giving(l(2, 1, 0), fill(0), node(api.Add, 0, 0), node(api.Mul, 1, 1)), giving(l(2, 1, 0), fill(0), node(api.Add, 0, 0), node(api.Mul, 1, 1)))
}

func TestG4Alike(t *testing.T) {
	wantTidy(t, giving(l(0, 1), fill(1), fill(1)), giving(l(0, 0), fill(1)))
	wantTidy(t, giving(l(3), par(0), node(api.Add, 0, 0), node(api.Add, 0, 0), node(api.Sub, 1, 2)),
		giving(l(2), par(0), node(api.Add, 0, 0), node(api.Sub, 1, 1)))
	// Alike only once their args are such nodes, step by step.
	wantTidy(t, giving(l(8, 7), par(0), fill(1), fill(1), node(api.Add, 0, 1), node(api.Add, 0, 2), node(api.Mul, 3, 4), node(api.Mul, 4, 3), sum1(5), sum1(6)),
		giving(l(4, 4), par(0), fill(1), node(api.Add, 0, 1), node(api.Mul, 2, 2), sum1(3)))
	// A long chain of such, twice.
	twice := giving(l(2000, 4000), par(0))
	for range 2 {
		for k := range 2000 {
			at := len(twice.Nodes) - 1
			if k == 0 {
				at = 0
			}
			twice.Nodes = append(twice.Nodes, node(api.Add, at, at))
		}
	}
	once := chain(2000)
	once.Outs = l(2000, 2000)
	wantTidy(t, twice, once)
	// Parameters are never alike, whatever their dimensions.
	wantTidy(t, giving(l(2, 3), par(0), par(1), node(api.Add, 0, 0), node(api.Add, 1, 1)), giving(l(2, 3), par(0), par(1), node(api.Add, 0, 0), node(api.Add, 1, 1)))
	// The order of args is not the same.
	wantTidy(t, giving(l(2, 3), par(0), par(1), node(api.Add, 0, 1), node(api.Add, 1, 0)), giving(l(2, 3), par(0), par(1), node(api.Add, 0, 1), node(api.Add, 1, 0)))
	// What comes first stands for all, though another one stood first in the graph.
	wantTidy(t, giving(l(4, 3), par(0), fill(1), fill(1), node(api.Add, 0, 1), node(api.Mul, 2, 0)),
		giving(l(2, 3), par(0), fill(1), node(api.Mul, 1, 0), node(api.Add, 0, 1)))
}

// sum1 is the sum over no dimension.
func sum1(of int) api.Node { return on(api.Op{Kind: api.Sum}, of) }

// fields are changes of one field of an operation, each.
func fields() []func(*api.Op) {
	return []func(*api.Op){
		func(op *api.Op) { op.Value = 77 },
		func(op *api.Op) { op.Dims = append(l(1), op.Dims...) },
		func(op *api.Op) { op.At = append(slices.Clone(op.At), 77) },
		func(op *api.Op) { op.Lo = append(slices.Clone(op.Lo), 77) },
		func(op *api.Op) { op.Hi = append(slices.Clone(op.Hi), -77) },
		func(op *api.Op) { op.Step = append(slices.Clone(op.Step), 0) },
	}
}

// Nodes that differ only in fields that mean nothing for their kind are alike, and what means nothing goes.
func TestG4FieldsThatMeanNothing(t *testing.T) {
	g := every()
	for i, with := range g.Nodes {
		for _, change := range fields() {
			op := with.Op
			change(&op)
			if !array.Same(op, with.Op) {
				continue
			}
			one := giving(l(i), g.Nodes...)
			one.Nodes = slices.Clone(one.Nodes)
			one.Nodes[i].Op = op
			wantTidy(t, one, tidyByHand(giving(l(i), g.Nodes...), 3))
			if i < 3 {
				continue
			}
			two := giving(l(i, len(g.Nodes)), append(slices.Clone(g.Nodes), on(op, with.Args...))...)
			wantTidy(t, two, tidyByHand(giving(l(i, i), g.Nodes...), 3))
		}
	}
	// All of them at once.
	wantTidy(t, giving(l(1, 2), par(0, 2), on(api.Op{Kind: api.Add, Dims: l(-1), At: l(1), Lo: l(2), Hi: l(3), Step: l(4), Value: 5}, 0, 0), node(api.Add, 0, 0)),
		giving(l(1, 1), par(0, 2), node(api.Add, 0, 0)))
	odd := par(0, 2)
	odd.Op.Lo, odd.Op.Hi, odd.Op.Step, odd.Op.Value = l(1), l(2), l(3), 4
	wantTidy(t, giving(l(0), odd), giving(l(0), par(0, 2)))
}

// Nodes that differ in one field that means something are not alike; nor are such as have the same numbers in other fields, or cut elsewhere.
func TestG4FieldsThatMeanSomething(t *testing.T) {
	params := []api.Node{par(0, 2, 2), par(1, 2, 2), par(2, 12, 1, 1)}
	for _, c := range [][]api.Node{
		{fill(1), fill(2), fill(-1), fill(math.MinInt64), fill(1, 1), fill(1, 0), fill(1, 1, 1), fill(0), fill(0, 1), fill(11), fill(1, 11), fill(11, 1), fill(1, 1, 11), fill(1, 11, 1), fill(1, 1, 1, 1)},
		{node(api.Add, 0, 0), node(api.Add, 0, 1), node(api.Add, 1, 0), node(api.Add, 1, 1), node(api.Sub, 0, 0), node(api.Mul, 0, 0), node(api.Max, 0, 0), node(api.Less, 0, 0)},
		{node(api.Pick, 0, 0, 1), node(api.Pick, 0, 1, 0), node(api.Pick, 1, 0, 0), node(api.Pick, 0, 0, 0), node(api.Take, 0, 0), node(api.Take, 0, 1), node(api.Take, 1, 0)},
		{on(api.Op{Kind: api.Spread, Dims: l(2, 2, 2), At: l(0, 1)}, 0), on(api.Op{Kind: api.Spread, Dims: l(2, 2, 2), At: l(0, 2)}, 0), on(api.Op{Kind: api.Spread, Dims: l(2, 2, 2), At: l(1, 2)}, 0), on(api.Op{Kind: api.Spread, Dims: l(2, 2, 1), At: l(0, 1)}, 0), on(api.Op{Kind: api.Spread, Dims: l(2, 2), At: l(0, 1)}, 0)},
		{on(api.Op{Kind: api.Sum}, 0), sum(0, 0), sum(1, 0), on(api.Op{Kind: api.Sum, At: l(0, 1)}, 0), on(api.Op{Kind: api.Flip}, 0), on(api.Op{Kind: api.Flip, At: l(0)}, 0), on(api.Op{Kind: api.Flip, At: l(1)}, 0), on(api.Op{Kind: api.Flip, At: l(0, 1)}, 0)},
		{on(api.Op{Kind: api.Turn, At: l(0, 1)}, 0), on(api.Op{Kind: api.Turn, At: l(1, 0)}, 0), on(api.Op{Kind: api.Join, At: l(0)}, 0), on(api.Op{Kind: api.Join, At: l(1)}, 0), on(api.Op{Kind: api.Join, At: l(1)}, 0, 0), on(api.Op{Kind: api.Join, At: l(1)}, 0, 1), on(api.Op{Kind: api.Join, At: l(1)}, 0, 0, 0)},
		{on(api.Op{Kind: api.Reform, Dims: l(12)}, 2), on(api.Op{Kind: api.Reform, Dims: l(1, 12)}, 2), on(api.Op{Kind: api.Reform, Dims: l(12, 1)}, 2), on(api.Op{Kind: api.Reform, Dims: l(3, 4)}, 2), on(api.Op{Kind: api.Put, Dims: l(12)}, 2, 2), on(api.Op{Kind: api.Put, Dims: l(1)}, 2, 2)},
		{cutOf(0, 0, 2, 1), cutOf(1, 0, 2, 1), cutOf(0, 1, 2, 1), cutOf(0, 0, 2, 2), cutOf(0, 0, 1, 1), padOf(0, 0, 2, 1), padOf(1, 0, 2, 1), padOf(0, 1, 2, 1), padOf(0, 0, 2, 2), padOf(0, 0, 1, 1)},
		{on(api.Op{Kind: api.Dot}, 0, 1), on(api.Op{Kind: api.Dot, At: l(0), Step: l(0)}, 0, 1), on(api.Op{Kind: api.Dot, Lo: l(0), Hi: l(0)}, 0, 1), on(api.Op{Kind: api.Dot, At: l(0), Step: l(1)}, 0, 1), on(api.Op{Kind: api.Dot, At: l(1), Step: l(0)}, 0, 1),
			on(api.Op{Kind: api.Dot, Lo: l(0), Hi: l(1)}, 0, 1), on(api.Op{Kind: api.Dot, Lo: l(1), Hi: l(0)}, 0, 1), on(api.Op{Kind: api.Dot, At: l(0, 1), Step: l(0, 1)}, 0, 1), on(api.Op{Kind: api.Dot, At: l(1, 0), Step: l(1, 0)}, 0, 1), on(api.Op{Kind: api.Dot, At: l(0), Step: l(0), Lo: l(1), Hi: l(1)}, 0, 1)},
	} {
		g := giving(l(0, 1, 2), append(slices.Clone(params), c...)...)
		for k := range c {
			g.Outs = append(g.Outs, 3+k)
		}
		wantTidy(t, g, g)
		// Each of them twice: as many come.
		again := giving(slices.Clone(g.Outs), append(slices.Clone(g.Nodes), c...)...)
		want := giving(slices.Clone(g.Outs), g.Nodes...)
		for k := range c {
			again.Outs = append(again.Outs, 3+len(c)+k)
			want.Outs = append(want.Outs, 3+k)
		}
		wantTidy(t, again, want)
	}
}

// cutOf is a part of parameter 0.
func cutOf(lo1, lo2, hi, step int) api.Node {
	return on(api.Op{Kind: api.Cut, Lo: l(lo1, lo2), Hi: l(2, hi), Step: l(1, step)}, 0)
}

// padOf is parameter 0 with noughts around.
func padOf(lo1, lo2, hi, step int) api.Node {
	return on(api.Op{Kind: api.Pad, Lo: l(lo1, lo2), Hi: l(2, hi), Step: l(1, step)}, 0)
}

// Example 3 of the document, however it stands.
func TestG4Example(t *testing.T) {
	want := giving(l(4), par(0, 2), node(api.Mul, 0, 0), sum(0, 1), fill(1), node(api.Sub, 2, 3))
	wantTidy(t, want, want)
	wantTidy(t, giving(l(6), par(0, 2), fill(2), fill(1), node(api.Mul, 0, 0), sum(0, 3), fill(1), node(api.Sub, 4, 5), node(api.Add, 6, 2)), want)
	isGraph(t, "Build", want)(graph.Build(read(t, "fn f(x: [2]) = let y = x * x in sum{0}(y) - 1;"), "f", [][]int{l(2)}))
	wantEval(t, want, arrays(row(3, 4)), one(24))
	wantEval(t, want, arrays(row(3+1<<32, 4)), one(24+6<<32))
}
