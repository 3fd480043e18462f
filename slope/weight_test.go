package slope_test

import (
	"fmt"
	"slices"
	"testing"

	"adjoint/api"
	"adjoint/graph"
)

// cheap: both graphs weigh no more than D5 says.
func cheap(t *testing.T, what string, g api.Graph) {
	t.Helper()
	if err := graph.Wrong(g); err != api.OK {
		t.Fatalf("%s: %s is wrong: %d", what, show(g), err)
	}
	ahead(t, g)
	backward(t, g)
	if t.Failed() {
		t.Fatal(what)
	}
}

// each are operations of all kinds on parameters of dimensions of about this much, as nodes behind them; the parameters: n times m, n times m, m times n, a list of n, a number.
func each(n, m int) map[string]api.Node {
	op := func(kind int, dims, at, lo, hi, step []int) api.Op {
		return api.Op{Kind: kind, Dims: dims, At: at, Lo: lo, Hi: hi, Step: step}
	}
	return map[string]api.Node{
		"fill": fill(7, n, m), "add": node(api.Add, 0, 1), "sub": node(api.Sub, 0, 1), "mul": node(api.Mul, 0, 1), "max": node(api.Max, 0, 1), "less": node(api.Less, 0, 1), "pick": node(api.Pick, 0, 1, 0),
		"spread": on(op(api.Spread, l(n, m), l(0), nil, nil, nil), 3), "spread a number": on(op(api.Spread, l(n, m), nil, nil, nil, nil), 4), "spread to nothing": on(op(api.Spread, l(n, 0), l(0), nil, nil, nil), 3),
		"sum": on(op(api.Sum, nil, l(0), nil, nil, nil), 0), "sum all": on(op(api.Sum, nil, l(0, 1), nil, nil, nil), 0), "sum none": on(op(api.Sum, nil, nil, nil, nil, nil), 0),
		"turn": on(op(api.Turn, nil, l(1, 0), nil, nil, nil), 0), "flip": on(op(api.Flip, nil, l(0, 1), nil, nil, nil), 0), "reform": on(op(api.Reform, l(m, n), nil, nil, nil, nil), 0),
		"cut": on(op(api.Cut, nil, nil, l(0, 0), l(n, m), l(1, 2)), 0), "cut to nothing": on(op(api.Cut, nil, nil, l(0, 0), l(n, 0), l(1, 1)), 0), "cut one": on(op(api.Cut, nil, nil, l(0, 0), l(n, m), l(4096, 4096)), 0),
		"pad": on(op(api.Pad, nil, nil, l(0), l(4096-n), l(1)), 3), "pad none": on(op(api.Pad, nil, nil, l(0, 0), l(0, 0), l(1, 1)), 0),
		"dot": on(op(api.Dot, nil, l(1), nil, nil, l(1)), 0, 1), "dot, turned": on(op(api.Dot, nil, l(0), nil, nil, l(1)), 0, 2), "dot, one way": on(op(api.Dot, nil, l(0), nil, nil, l(0)), 0, 3), "dot together": on(op(api.Dot, nil, nil, l(0, 1), l(1, 0), nil), 0, 2),
		"dot together and summed": on(op(api.Dot, nil, l(1), l(0), l(0), l(1)), 0, 1), "dot all": on(op(api.Dot, nil, l(1, 0), nil, nil, l(0, 1)), 0, 2), "dot a number": on(op(api.Dot, nil, nil, nil, nil, nil), 4, 0), "dot with itself": on(op(api.Dot, nil, l(0), nil, nil, l(0)), 3, 3),
		"join": on(op(api.Join, nil, l(0), nil, nil, nil), 3), "take": node(api.Take, 0, 4), "take many": node(api.Take, 3, 1), "take few": node(api.Take, 2, 4),
		"put": on(op(api.Put, l(4096), nil, nil, nil, nil), 3, 3), "put all": on(op(api.Put, l(1), nil, nil, nil, nil), 0, 1), "put rows": on(op(api.Put, l(2), nil, nil, nil, nil), 0, 3), "put nowhere": on(op(api.Put, l(0), nil, nil, nil, nil), 0, 3),
	}
}

// D5, kind by kind, small and great; given once, twice, and not at all; on parameters, and on what is made of them.
func TestD5EachKind(t *testing.T) {
	for _, s := range [][2]int{{1, 1}, {2, 3}, {3, 2}, {0, 3}, {3, 0}, {0, 0}, {60, 1}, {1, 60}, {30, 200}, {16, 4096}, {4096, 1}, {1, 4096}, {256, 256}, {64, 1024}} {
		n, m := s[0], s[1]
		params := []api.Node{par(0, n, m), par(1, n, m), par(2, m, n), par(3, n), par(4)}
		for what, node := range each(n, m) {
			what = fmt.Sprint(what, s)
			g := giving(l(5), append(slices.Clone(params), node)...)
			if graph.Wrong(g) == api.ErrMuch {
				// The products of all pairs are too many.
				continue
			}
			cheap(t, what, g)
			g.Outs = l(5, 5)
			cheap(t, what, g)
			g.Outs = nil
			cheap(t, what, g)
			g.Outs = l(0, 5, 4)
			cheap(t, what, g)
			cheap(t, what+" of what is made", made(node, params, l(10)))
			cheap(t, what+" of what is made, not given", made(node, params, l(9)))
		}
	}
}

// made is a graph with an operation on flipped parameters.
func made(node api.Node, params []api.Node, outs []int) api.Graph {
	g := giving(outs, params...)
	for k := range params {
		g.Nodes = append(g.Nodes, on(api.Op{Kind: api.Flip}, k))
	}
	var args []int
	for _, at := range node.Args {
		args = append(args, at+len(params))
	}
	g.Nodes = append(slices.Clone(g.Nodes), on(node.Op, args...))
	return g
}

// D5: joins of many, small ones beside great ones.
func TestD5Join(t *testing.T) {
	join := func(at, many int, of ...int) api.Node {
		return on(api.Op{Kind: api.Join, At: l(at)}, slices.Repeat(of, many)...)
	}
	for _, dims := range [][]int{l(1), l(8), l(0), l(2, 4), l(8, 0), l(0, 8), l(8, 8), l(2, 2, 8)} {
		for _, many := range []int{1, 2, 250, 500} {
			cheap(t, fmt.Sprint(dims, many), giving(l(1), par(0, dims...), join(0, many, 0)))
			cheap(t, fmt.Sprint(dims, many), giving(l(1, 1, 0), par(0, dims...), join(0, many, 0)))
			cheap(t, fmt.Sprint(dims, many, " along the last"), giving(l(1), par(0, dims...), join(len(dims)-1, many, 0)))
		}
	}
	cheap(t, "nothing, and much", giving(l(3), par(0, 0), par(1, 4096), join(0, 250, 0), join(0, 1, 1, 2, 2)))
	cheap(t, "nothing many times, and much", giving(l(2), par(0, 0), par(1, 4096), join(0, 1, append(slices.Repeat(l(0), 400), 1)...)))
}

// D5: chains, in which each one needs the one ahead of it once, twice, or three times: what it costs must not come again for each way.
func TestD5Deep(t *testing.T) {
	for _, dims := range [][]int{nil, l(0), l(3), l(8, 8), l(256, 256)} {
		for _, kind := range []int{api.Add, api.Sub, api.Mul, api.Max, api.Less, api.Pick} {
			many := 2
			if kind == api.Pick {
				many = 3
			}
			g := giving(nil, par(0, dims...))
			for k := 0; parts(g)+1+many < 512; k++ {
				g.Nodes = append(g.Nodes, node(kind, slices.Repeat(l(k), many)...))
			}
			g.Outs = l(len(g.Nodes) - 1)
			cheap(t, fmt.Sprint(kind, dims), g)
			// Each needs the first one, and the one ahead of it.
			for k := range g.Nodes[1:] {
				g.Nodes[k+1].Args[0] = 0
			}
			cheap(t, fmt.Sprint(kind, dims, " with the first"), g)
		}
	}
	for what, op := range map[string]api.Op{
		"turn": {Kind: api.Turn, At: l(1, 0)}, "flip": {Kind: api.Flip, At: l(0)}, "reform": {Kind: api.Reform, Dims: l(64, 64)}, "cut": {Kind: api.Cut, Lo: l(0, 0), Hi: l(64, 64), Step: l(1, 1)},
		"pad": {Kind: api.Pad, Lo: l(0, 0), Hi: l(0, 0), Step: l(1, 1)}, "sum": {Kind: api.Sum}, "spread": {Kind: api.Spread, Dims: l(64, 64), At: l(0, 1)}, "join": {Kind: api.Join, At: l(1)},
	} {
		g := giving(l(255), par(0, 64, 64))
		for k := range 255 {
			g.Nodes = append(g.Nodes, on(op, k))
		}
		cheap(t, what, g)
	}
	for what, op := range map[string]api.Op{"dot": {Kind: api.Dot, At: l(1), Step: l(0)}, "dot, turned": {Kind: api.Dot, At: l(0), Step: l(1)}, "dot together": {Kind: api.Dot, Lo: l(1, 0), Hi: l(1, 0)}, "dot, both": {Kind: api.Dot, Lo: l(0), Hi: l(1), At: l(1), Step: l(0)}} {
		for _, n := range []int{1, 2, 64, 256} {
			g := giving(l(170), par(0, n, n))
			for k := range 170 {
				g.Nodes = append(g.Nodes, on(op, k, k))
			}
			if what == "dot, both" {
				g.Nodes, g.Outs = g.Nodes[:2], l(1)
			}
			cheap(t, fmt.Sprint(what, n), g)
		}
	}
}

// D5: many that need one, many that are given, many parameters.
func TestD5Wide(t *testing.T) {
	for _, dims := range [][]int{nil, l(0), l(4), l(256, 256)} {
		fan := giving(nil, par(0, dims...), fill(3, dims...))
		for k := range 127 {
			fan.Nodes = append(fan.Nodes, node([]int{api.Add, api.Mul, api.Max, api.Sub}[k%4], 0, 1))
			fan.Outs = append(fan.Outs, k+2)
		}
		cheap(t, fmt.Sprint("fan", dims), fan)
		fan.Outs = l(2)
		cheap(t, fmt.Sprint("fan, one given", dims), fan)
		cheap(t, fmt.Sprint("given often", dims), giving(slices.Repeat(l(0), 511), par(0, dims...)))
		cheap(t, fmt.Sprint("given often", dims), giving(slices.Repeat(l(1), 500), par(0, dims...), node(api.Mul, 0, 0)))
		var params []api.Node
		for k := range 512 {
			params = append(params, par(k, dims...))
		}
		cheap(t, fmt.Sprint("parameters", dims), giving(nil, params...))
		cheap(t, fmt.Sprint("parameters", dims), giving(l(3), params[:511]...))
		cheap(t, fmt.Sprint("fills", dims), giving(slices.Repeat(l(0), 256), slices.Repeat([]api.Node{fill(3, dims...)}, 256)...))
	}
	// A tree of products: two of each row make one of the next.
	g := giving(nil)
	for k := range 128 {
		g.Nodes = append(g.Nodes, par(k, 7))
	}
	for k := 0; len(g.Nodes) < 255; k += 2 {
		g.Nodes = append(g.Nodes, node(api.Mul, k, k+1))
	}
	g.Outs = l(254)
	cheap(t, "tree", g)
}
