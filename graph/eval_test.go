package graph_test

import (
	"math"
	"slices"
	"testing"

	"adjoint/api"
	"adjoint/graph"
)

// everyArgs are arguments of every().
func everyArgs() []api.Array {
	return arrays(of(l(2, 3), 1, -2, 3, -4, 5, 6), of(l(2, 3), 6, 5, 4, 3, 2, 1), row(4, 3))
}

func TestG3EachKind(t *testing.T) {
	g := every()
	// One node after the other is given alone, all of them at once, and all of them from the last one on.
	values := valuesByHand(t, g, everyArgs())
	all := l()
	for i := range g.Nodes {
		g.Outs = l(i)
		wantEval(t, g, everyArgs(), values[i])
		all = append(all, i)
	}
	g.Outs = all
	wantEval(t, g, everyArgs(), values...)
	slices.Reverse(g.Outs)
	slices.Reverse(values)
	wantEval(t, g, everyArgs(), values...)
}

// By numbers that are written out here, not made by array.Do.
func TestG3Numbers(t *testing.T) {
	a, b := row(3, -4), row(10, 20)
	two := arrays(a, b)
	for _, c := range []struct {
		node api.Node
		want api.Array
	}{
		{fill(9, 3), row(9, 9, 9)},
		{node(api.Add, 0, 1), row(13, 16)},
		{node(api.Sub, 0, 1), row(-7, -24)},
		{node(api.Sub, 1, 0), row(7, 24)},
		{node(api.Mul, 0, 0), row(9, 16)},
		{node(api.Max, 0, 1), row(10, 20)},
		{node(api.Less, 0, 1), row(1, 1)},
		{node(api.Less, 1, 0), row(0, 0)},
		{node(api.Pick, 0, 1, 0), row(10, 20)},
		{on(api.Op{Kind: api.Spread, Dims: l(2, 2), At: l(1)}, 0), of(l(2, 2), 3, -4, 3, -4)},
		{on(api.Op{Kind: api.Spread, Dims: l(2, 2), At: l(0)}, 0), of(l(2, 2), 3, 3, -4, -4)},
		{sum(0, 1), one(30)},
		{on(api.Op{Kind: api.Turn, At: l(0)}, 0), a},
		{on(api.Op{Kind: api.Reform, Dims: l(1, 2)}, 0), of(l(1, 2), 3, -4)},
		{on(api.Op{Kind: api.Cut, Lo: l(1), Hi: l(2), Step: l(1)}, 1), row(20)},
		{on(api.Op{Kind: api.Pad, Lo: l(1), Hi: l(0), Step: l(2)}, 1), row(0, 10, 0, 20)},
		{on(api.Op{Kind: api.Flip, At: l(0)}, 1), row(20, 10)},
		{on(api.Op{Kind: api.Dot, At: l(0), Step: l(0)}, 0, 1), one(-50)},
		{on(api.Op{Kind: api.Dot}, 0, 1), of(l(2, 2), 30, 60, -40, -80)},
		{on(api.Op{Kind: api.Dot, Lo: l(0), Hi: l(0)}, 0, 1), row(30, -80)},
		{on(api.Op{Kind: api.Join, At: l(0)}, 1, 0, 1), row(10, 20, 3, -4, 10, 20)},
		{node(api.Take, 1, 0), row(0, 0)},
		{on(api.Op{Kind: api.Put, Dims: l(4)}, 1, 0), row(0, 0, 0, 10)},
	} {
		wantEval(t, giving(l(2), par(0, 2), par(1, 2), c.node), two, c.want)
		wantEval(t, giving(l(2, 0, 2, 1), par(0, 2), par(1, 2), c.node), two, c.want, a, c.want, b)
		// Beside something that nobody needs, and behind it.
		wantEval(t, giving(l(3), par(0, 2), par(1, 2), fill(5, 4096), c.node, node(api.Add, 2, 2)), two, c.want)
	}
}

func TestG3Edges(t *testing.T) {
	wantEval(t, giving(nil), nil)
	wantEval(t, giving(nil, fill(3)), nil)
	wantEval(t, giving(l(0), fill(3)), nil, one(3))
	wantEval(t, giving(l(0, 0, 0), fill(3)), nil, one(3), one(3), one(3))
	wantEval(t, giving(nil, par(0)), arrays(one(8)))
	wantEval(t, giving(l(0), par(0)), arrays(one(8)), one(8))
	wantEval(t, giving(l(1, 0, 1), par(0), par(1, 2)), arrays(one(8), row(1, 2)), row(1, 2), one(8), row(1, 2))
	wantEval(t, giving(l(2), par(0), par(1, 2), fill(4)), arrays(one(8), row(1, 2)), one(4))
	wantEval(t, giving(l(1), par(0, 0, 3), sum(0, 0)), arrays(of(l(0, 3))), row(0, 0, 0))
	wantEval(t, giving(l(1), par(0), node(api.Add, 0, 0)), arrays(one(math.MaxInt64)), one(-2))
	wantEval(t, giving(l(1), par(0), node(api.Mul, 0, 0)), arrays(one(1<<32)), one(0))
	// What is needed early, late, and given.
	wantEval(t, giving(l(1, 4, 3), par(0), node(api.Add, 0, 0), node(api.Mul, 1, 1), node(api.Sub, 2, 1), node(api.Mul, 3, 1)), arrays(one(5)), one(10), one(900), one(90))
	// Nodes that are alike, and nobody else's.
	wantEval(t, giving(l(3), par(0), node(api.Add, 0, 0), node(api.Add, 0, 0), node(api.Sub, 1, 2)), arrays(one(5)), one(0))
	// The longest one.
	wantEval(t, chain(4095), arrays(one(1)), one(0))
	g := chain(4095)
	g.Outs = l(62, 63, 4095)
	wantEval(t, g, arrays(one(1)), one(1<<62), one(math.MinInt64), one(0))
}

// Great arrays, one behind the other: what is needed no more is let go.
func TestG3GreatArrays(t *testing.T) {
	g := giving(l(1000), par(0, 4096, 16))
	for k := range 1000 {
		g.Nodes = append(g.Nodes, node(api.Add, k, 0))
	}
	a := of(l(4096, 16), slices.Repeat([]int64{3}, 65536)...)
	wantEval(t, g, arrays(a), of(l(4096, 16), slices.Repeat([]int64{3003}, 65536)...))
}

func TestG3WrongArguments(t *testing.T) {
	g := giving(l(2), par(0, 2), par(1), on(api.Op{Kind: api.Spread, Dims: l(2)}, 1), node(api.Add, 0, 2))
	good, unfit := arrays(row(1, 2), one(3)), arrays(row(1), row(2))
	wantEval(t, g, good, row(3, 3))
	for _, args := range [][]api.Array{nil, {}, good[:1], append(slices.Clone(good), one(3)), arrays(of(l(-1))), arrays(row(1), row(2), row(3))} {
		wantNoArrays(t, g, args, api.ErrMany)
	}
	wantNoArrays(t, giving(nil, fill(1)), arrays(one(1)), api.ErrMany)
	wantNoArrays(t, giving(nil), arrays(one(1)), api.ErrMany)
	ill := []struct {
		a   api.Array
		err api.Errno
	}{
		{of(ones(7), 1), api.ErrRank}, {of(l(-1)), api.ErrRange}, {of(l(4097)), api.ErrRange}, {of(l(4096, 17)), api.ErrMuch},
		{of(l(2), 1), api.ErrShape}, {of(l(2), 1, 2, 3), api.ErrShape}, {of(nil), api.ErrShape}, {of(nil, 1, 2), api.ErrShape},
		{row(1), api.ErrShape}, {row(1, 2, 3), api.ErrShape}, {of(l(1, 2), 1, 2), api.ErrShape}, {of(l(2, 1), 1, 2), api.ErrShape}, {row(), api.ErrShape},
	}
	for _, c := range ill {
		wantNoArrays(t, g, arrays(c.a, good[1]), c.err)
		wantNoArrays(t, g, arrays(good[0], c.a), c.err)
		// Argument by argument.
		wantNoArrays(t, g, arrays(unfit[0], c.a), api.ErrShape)
		wantNoArrays(t, g, arrays(c.a, unfit[1]), c.err)
		for _, d := range ill {
			wantNoArrays(t, g, arrays(c.a, d.a), c.err)
		}
		// Of a parameter that nobody needs as well.
		wantNoArrays(t, giving(nil, par(0, 2)), arrays(c.a), c.err)
		// Ahead of them comes how many there are, and ahead of that what is wrong with the graph.
		wantNoArrays(t, g, arrays(c.a), api.ErrMany)
		wantNoArrays(t, giving(l(9), par(0, 2)), arrays(c.a), api.ErrRange)
		wantNoArrays(t, giving(l(9), par(0, 2)), nil, api.ErrRange)
	}
	wantNoArrays(t, giving(nil, par(0, 2)), arrays(one(1)), api.ErrShape)
	wantNoArrays(t, giving(nil, par(0)), arrays(row(1)), api.ErrShape)
	wantNoArrays(t, giving(nil, par(0, 0)), arrays(of(l(0, 0))), api.ErrShape)
	wantNoArrays(t, giving(nil, par(0, 2, 0)), arrays(of(l(0, 2))), api.ErrShape)
}

// Whatever a graph gives, and how often: Eval tells the same as its tidy graph does.
func TestG3TidyGivesTheSame(t *testing.T) {
	g := every()
	for k := range g.Nodes {
		g.Outs = l(k, len(g.Nodes)-1, k)
		tidy, err := graph.Tidy(g)
		if err != api.OK {
			t.Fatal(err)
		}
		wantEval(t, tidy, everyArgs(), evalByHand(t, g, everyArgs())...)
	}
}
