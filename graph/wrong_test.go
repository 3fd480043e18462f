package graph_test

import (
	"math"
	"slices"
	"testing"

	"adjoint/api"
	"adjoint/array"
	"adjoint/graph"
)

// every is a graph with each kind of operation, whose nodes have the dimensions of everyDims.
func every() api.Graph {
	return giving(l(21, 0, 4, 4),
		par(0, 2, 3), par(1, 2, 3), par(2, 2),
		fill(7, 2, 3),
		node(api.Add, 0, 1), node(api.Sub, 4, 3), node(api.Mul, 5, 0), node(api.Max, 6, 1), node(api.Less, 7, 0), node(api.Pick, 8, 6, 7),
		on(api.Op{Kind: api.Spread, Dims: l(4, 2, 3), At: l(1, 2)}, 9),
		on(api.Op{Kind: api.Sum, At: l(0)}, 10),
		on(api.Op{Kind: api.Turn, At: l(1, 0)}, 11),
		on(api.Op{Kind: api.Reform, Dims: l(6)}, 12),
		on(api.Op{Kind: api.Cut, Lo: l(1), Hi: l(6), Step: l(2)}, 13),
		on(api.Op{Kind: api.Pad, Lo: l(1), Hi: l(2), Step: l(3)}, 14),
		on(api.Op{Kind: api.Flip, At: l(0)}, 15),
		on(api.Op{Kind: api.Dot, At: l(1), Step: l(0)}, 0, 12),
		on(api.Op{Kind: api.Dot, Lo: l(0), Hi: l(1)}, 17, 17),
		on(api.Op{Kind: api.Join, At: l(0)}, 16, 2, 2),
		node(api.Take, 19, 17),
		on(api.Op{Kind: api.Put, Dims: l(5)}, 18, 2),
	)
}

func everyDims() [][]int {
	m := l(2, 3)
	return [][]int{m, m, l(2), m, m, m, m, m, m, m, l(4, 2, 3), m, l(3, 2), l(6), l(3), l(10), l(10), l(2, 2), l(2, 2, 2), l(14), l(2, 2), l(5, 2, 2)}
}

func TestG1Params(t *testing.T) {
	for _, c := range []struct {
		want  int
		nodes []api.Node
	}{
		{0, nil},
		{0, []api.Node{}},
		{0, []api.Node{fill(1)}},
		{1, []api.Node{par(0)}},
		{3, []api.Node{par(0), par(1), par(2)}},
		{2, []api.Node{par(0), par(1), fill(1)}},
		{1, []api.Node{par(0), fill(1), par(1), par(2)}},
		{0, []api.Node{fill(1), par(0), par(1)}},
		// Of any graph, whatever is wrong with it.
		{2, []api.Node{par(7, -1), {Op: api.Op{Kind: api.Param}, Args: l(9, -9)}, node(0)}},
		{0, []api.Node{node(0), par(0)}},
		{0, []api.Node{node(-1), par(0)}},
		{1, []api.Node{par(0), node(99), par(1)}},
		{4097, slices.Repeat([]api.Node{par(0)}, 4097)},
		{5000, append(slices.Repeat([]api.Node{par(0)}, 5000), fill(1), par(0))},
	} {
		for _, outs := range [][]int{nil, l(0), l(-1, 9)} {
			if got := graph.Params(giving(outs, c.nodes...)); got != c.want {
				t.Errorf("%s: %d comes, not %d", cut(show(giving(outs, c.nodes...))), got, c.want)
			}
		}
	}
}

func TestG2RightGraphs(t *testing.T) {
	wantDims(t, giving(nil))
	wantDims(t, giving(l(), []api.Node{}...))
	wantDims(t, every(), everyDims()...)
	// Without parameters; with parameters alone; with such as nothing needs.
	wantDims(t, giving(l(0), fill(3)), nil)
	wantDims(t, giving(l(2), fill(3, 4), fill(5, 4), node(api.Mul, 0, 1)), l(4), l(4), l(4))
	wantDims(t, giving(nil, par(0)), nil)
	wantDims(t, giving(l(1, 1, 0), par(0, 3), par(1), par(2, 0, 4096)), l(3), nil, l(0, 4096))
	wantDims(t, giving(l(2), par(0, 3), par(1, 2), fill(1)), l(3), l(2), nil)
	// Fields that mean nothing for a kind may be anything.
	odd := api.Op{Kind: api.Param, At: l(0), Dims: l(2), Lo: l(-1), Hi: l(math.MaxInt), Step: l(0), Value: math.MinInt64}
	wantDims(t, giving(l(0), on(odd)), l(2))
	odd.Kind, odd.Dims, odd.At = api.Add, l(-1, -2), l(-3)
	wantDims(t, giving(l(1), par(0, 2), on(odd, 0, 0)), l(2), l(2))
	// Outs: none; one many times; all.
	for _, outs := range [][]int{nil, l(1), l(1, 1, 1, 1), l(0, 1), l(1, 0, 1), slices.Repeat(l(0), 5000)} {
		wantDims(t, giving(outs, par(0, 2), node(api.Add, 0, 0)), l(2), l(2))
	}
}

func TestG2Args(t *testing.T) {
	for _, at := range []int{2, 3, 4, -1, math.MaxInt, math.MinInt} {
		wantWrong(t, giving(nil, par(0), par(1), node(api.Add, 0, at), fill(1), fill(2)), api.ErrOrder)
		wantWrong(t, giving(nil, par(0), par(1), node(api.Add, at, 0), fill(1), fill(2)), api.ErrOrder)
		wantWrong(t, giving(nil, fill(0), fill(1), on(api.Op{Kind: api.Join, At: l(0)}, 0, 1, 0, at)), api.ErrOrder)
		// Ahead of anything else that is wrong with the node.
		wantWrong(t, giving(l(9), par(0), par(1), node(0, at)), api.ErrOrder)
		wantWrong(t, giving(l(9), par(0), par(1), node(api.Fill, 0, at)), api.ErrOrder)
		wantWrong(t, giving(l(9), par(0), par(1), api.Node{Op: api.Op{Kind: api.Param, Dims: l(-1)}, Args: l(at)}), api.ErrOrder)
		wantWrong(t, giving(l(9), par(0), fill(1), api.Node{Op: par(2).Op, Args: l(at)}), api.ErrOrder)
	}
	wantWrong(t, giving(nil, node(api.Add, 0, 0)), api.ErrOrder)
	wantWrong(t, giving(nil, on(api.Op{Kind: api.Fill}, 0)), api.ErrOrder)
	wantWrong(t, giving(nil, api.Node{Op: par(0).Op, Args: l(0)}), api.ErrOrder)
	wantDims(t, giving(nil, par(0), par(1), node(api.Add, 1, 0), node(api.Add, 2, 2)), nil, nil, nil, nil)
}

func TestG2Parameters(t *testing.T) {
	// Nodes that stand ahead of a parameter.
	wantWrong(t, giving(nil, fill(1), par(0)), api.ErrForm)
	wantWrong(t, giving(nil, fill(1), par(1)), api.ErrForm)
	wantWrong(t, giving(nil, par(0), fill(1), par(1)), api.ErrForm)
	wantWrong(t, giving(nil, par(0), fill(1), par(2)), api.ErrForm)
	wantWrong(t, giving(nil, par(0), node(api.Add, 0, 0), fill(1), par(3), par(4)), api.ErrForm)
	// An At that is not the list of its own number.
	for _, at := range [][]int{nil, l(), l(1), l(-1), l(0, 0), l(0, 1), l(1, 0), l(math.MaxInt)} {
		wantWrong(t, giving(nil, api.Node{Op: api.Op{Kind: api.Param, At: at}}), api.ErrForm)
	}
	for _, at := range [][]int{nil, l(0), l(2), l(0, 1), l(1, 1)} {
		wantWrong(t, giving(nil, par(0), api.Node{Op: api.Op{Kind: api.Param, At: at}}, fill(1)), api.ErrForm)
	}
	wantWrong(t, giving(nil, par(1), par(0)), api.ErrForm)
	// Args.
	wantWrong(t, giving(nil, par(0), api.Node{Op: par(1).Op, Args: l(0)}), api.ErrMany)
	wantWrong(t, giving(nil, par(0), api.Node{Op: par(1, -1).Op, Args: l(0, 0)}), api.ErrMany)
	wantWrong(t, giving(nil, par(0), api.Node{Op: par(0).Op, Args: l(0)}), api.ErrForm)
	wantWrong(t, giving(nil, par(0), fill(1), api.Node{Op: par(2).Op, Args: l(0)}), api.ErrForm)
	// Dims.
	for _, c := range []struct {
		dims []int
		err  api.Errno
	}{{ones(7), api.ErrRank}, {l(-1), api.ErrRange}, {l(4097), api.ErrRange}, {l(4096, 17), api.ErrMuch}, {l(0, -1), api.ErrRange}, {l(math.MinInt, 2), api.ErrRange}} {
		wantWrong(t, giving(nil, par(0, c.dims...)), c.err)
		wantWrong(t, giving(l(9), par(0), par(1, c.dims...), node(0)), c.err)
		wantWrong(t, giving(l(9), par(1, c.dims...)), api.ErrForm)
		wantWrong(t, giving(l(9), par(0), api.Node{Op: par(1, c.dims...).Op, Args: l(0)}), api.ErrMany)
	}
	wantDims(t, giving(nil, par(0, ones(6)...), par(1, 4096, 16), par(2, 4096, 4096, 0)), ones(6), l(4096, 16), l(4096, 4096, 0))
}

// Of another kind than Param what array.Dims says.
func TestG2Operations(t *testing.T) {
	for _, kind := range []int{0, -1, 20, 99, math.MaxInt, math.MinInt} {
		wantWrong(t, giving(l(0), node(kind)), api.ErrKind)
		wantWrong(t, giving(l(0), par(0), node(kind, 0, 0)), api.ErrKind)
	}
	for _, c := range []struct {
		node api.Node
		err  api.Errno
	}{
		{node(api.Add, 0), api.ErrMany}, {node(api.Add), api.ErrMany}, {node(api.Add, 0, 0, 0), api.ErrMany}, {node(api.Pick, 0, 0), api.ErrMany},
		{on(api.Op{Kind: api.Fill}, 0), api.ErrMany}, {on(api.Op{Kind: api.Join, At: l(0)}), api.ErrMany}, {sum(0, 0), api.OK},
		{node(api.Add, 0, 1), api.ErrShape}, {node(api.Pick, 0, 0, 1), api.ErrShape}, {sum(2, 0), api.ErrShape}, {sum(-1, 0), api.ErrShape},
		{fill(1, -1), api.ErrRange}, {fill(1, 4096, 17), api.ErrMuch}, {fill(1, ones(7)...), api.ErrRank},
		{on(api.Op{Kind: api.Spread, Dims: l(4096, 17), At: l(0)}, 1), api.ErrMuch}, {on(api.Op{Kind: api.Spread, Dims: l(3, 3), At: l(0)}, 1), api.ErrShape},
		{on(api.Op{Kind: api.Turn, At: l(0, 0)}, 0), api.ErrShape}, {on(api.Op{Kind: api.Flip, At: l(1, 0)}, 0), api.ErrShape},
		{on(api.Op{Kind: api.Reform, Dims: l(7)}, 0), api.ErrShape}, {on(api.Op{Kind: api.Reform, Dims: l(-7)}, 0), api.ErrRange},
		{on(api.Op{Kind: api.Cut, Lo: l(0), Hi: l(3), Step: l(1)}, 1), api.ErrRange}, {on(api.Op{Kind: api.Pad, Lo: l(0), Hi: l(0), Step: l(0)}, 1), api.ErrRange},
		{on(api.Op{Kind: api.Pad, Lo: l(4096), Hi: l(0), Step: l(1)}, 1), api.ErrRange}, {on(api.Op{Kind: api.Pad}, 1), api.ErrShape},
		{on(api.Op{Kind: api.Dot, At: l(1), Step: l(0)}, 0, 0), api.ErrShape}, {on(api.Op{Kind: api.Dot}, 2, 2), api.ErrRank},
		{on(api.Op{Kind: api.Join, At: l(0)}, 0, 1), api.ErrShape}, {on(api.Op{Kind: api.Join, At: l(1)}, 1, 1), api.ErrShape},
		{node(api.Take, 3, 0), api.ErrShape}, {on(api.Op{Kind: api.Put, Dims: l(4)}, 1, 0), api.ErrShape}, {on(api.Op{Kind: api.Put}, 0, 1), api.ErrShape},
	} {
		wantWrong(t, giving(l(0), par(0, 2, 3), par(1, 2), par(2, 1, 1, 1, 1), par(3), c.node), c.err)
	}
}

// Node by node: the first one that is wrong tells, then Outs.
func TestG2Order(t *testing.T) {
	bad := []struct {
		node api.Node
		err  api.Errno
	}{{node(api.Add, 0, 99), api.ErrOrder}, {par(0, 2), api.ErrForm}, {node(api.Add, 0), api.ErrMany}, {node(0), api.ErrKind}, {sum(1, 0), api.ErrShape},
		{fill(0, -1), api.ErrRange}, {fill(0, 4096, 4096), api.ErrMuch}, {fill(0, ones(9)...), api.ErrRank}}
	for _, a := range bad {
		for _, b := range bad {
			for _, outs := range [][]int{nil, l(0), l(99), l(-1)} {
				wantWrong(t, giving(outs, par(0, 2), node(api.Add, 0, 0), a.node, b.node), a.err)
				wantWrong(t, giving(outs, par(0, 2), a.node, node(api.Add, 0, 0), b.node), a.err)
			}
		}
		// A Param behind: the parameters end at the first node of another kind.
		wantWrong(t, giving(nil, par(0, 2), a.node, par(2, 2)), a.err)
	}
	wantWrong(t, giving(nil, par(0, 2), node(api.Param, 0)), api.ErrForm)
	wantWrong(t, giving(nil, par(0, -1), par(0, 2)), api.ErrRange)
	wantWrong(t, giving(nil, par(0, 1), par(0, -2)), api.ErrForm)
}

func TestG2Outs(t *testing.T) {
	for _, at := range []int{-1, 2, 3, math.MaxInt, math.MinInt} {
		for _, outs := range [][]int{l(at), l(0, at), l(at, 1), l(1, 1, at, 0)} {
			wantWrong(t, giving(outs, par(0, 2), node(api.Add, 0, 0)), api.ErrRange)
		}
	}
	wantWrong(t, giving(l(0)), api.ErrRange)
	wantWrong(t, giving(l(-1)), api.ErrRange)
	wantWrong(t, giving(l(1), fill(1)), api.ErrRange)
}

// chain is a parameter without dimensions, and so many sums behind it, each of the one ahead of it with itself.
func chain(sums int) api.Graph {
	g := giving(l(sums), par(0))
	for k := range sums {
		g.Nodes = append(g.Nodes, node(api.Add, k, k))
	}
	return g
}

func TestG2MostNodes(t *testing.T) {
	wantDims(t, chain(4095), make([][]int, 4096)...)
	wantWrong(t, chain(4096), api.ErrMuch)
	var all []api.Node
	for k := range 4096 {
		all = append(all, par(k))
	}
	wantDims(t, giving(nil, all...), make([][]int, 4096)...)
	wantWrong(t, giving(nil, append(all, par(4096))...), api.ErrMuch)
	wantWrong(t, giving(nil, append(all, fill(1))...), api.ErrMuch)
	// It is told ahead of all else.
	wantWrong(t, giving(nil, make([]api.Node, 4097)...), api.ErrMuch)
	wantWrong(t, giving(l(-1, 9999), slices.Repeat([]api.Node{node(api.Add, 99999)}, 4097)...), api.ErrMuch)
	wantWrong(t, giving(nil, make([]api.Node, 4096)...), api.ErrKind)
	// Nodes that nobody needs count as well, and such as are alike.
	wantWrong(t, giving(l(0), slices.Repeat([]api.Node{fill(1)}, 4097)...), api.ErrMuch)
	wantDims(t, giving(l(0), slices.Repeat([]api.Node{fill(1)}, 4096)...), make([][]int, 4096)...)
}

// A node may have as many args as it likes.
func TestG2ManyArgs(t *testing.T) {
	g := giving(l(1), par(0, 0), on(api.Op{Kind: api.Join, At: l(0)}, make([]int, 100000)...))
	wantDims(t, g, l(0), l(0))
	wantTidy(t, g, g)
	wantEval(t, g, arrays(row()), row())
	g.Nodes[1].Args[99999] = 1
	wantWrong(t, g, api.ErrOrder)
}

// What Wrong says of a node is what array.Dims says, of each kind with each number of args.
func TestG2AsArrayDims(t *testing.T) {
	shapes := [][]int{nil, l(2), l(2, 2), l(3), l(1, 2)}
	g := api.Graph{}
	for k, dims := range shapes {
		g.Nodes = append(g.Nodes, par(k, dims...))
	}
	for kind := -1; kind <= 21; kind++ {
		if kind == api.Param {
			continue
		}
		for many := range 4 {
			for code := range 125 {
				op := api.Op{Kind: kind, Dims: l(2), At: l(code % 2), Lo: nil, Hi: nil, Step: l(0)}
				args := l(code%5, code/5%5, code/25)[:many]
				var dims [][]int
				for _, at := range args {
					dims = append(dims, shapes[at])
				}
				want, wantErr := array.Dims(op, dims)
				with := giving(nil, append(slices.Clone(g.Nodes), on(op, args...))...)
				got, err := graph.Dims(with)
				if err != wantErr || err == api.OK && !slices.Equal(got[5], want) {
					t.Fatalf("%s: %v, %d comes, not %v, %d", show(with), got, err, want, wantErr)
				}
			}
		}
	}
}
