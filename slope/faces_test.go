package slope_test

import (
	"slices"
	"testing"

	"adjoint/api"
	"adjoint/graph"
	"adjoint/slope"
	"adjoint/text"
)

// Examples 3 and 5 of the document.
func TestExample(t *testing.T) {
	p, _ := text.Read("fn f(x: [2]) = let y = x * x in sum{0}(y) - 1;")
	g, err := graph.Build(p, "f", [][]int{{2}})
	if err != api.OK {
		t.Fatal(err)
	}
	wantBackward(t, g, arrays(row(3, 4)), arrays(one(1)), row(6, 8))
	wantAhead(t, g, arrays(row(3, 4)), arrays(row(1, 0)), one(6))
	if got := eval(t, g, arrays(row(3+1<<32, 4))); got[0].Data[0] != 24+6<<32 {
		t.Errorf("%v comes", got)
	}
}

// wantParams: the first nodes of a graph are parameters with these dimensions, each with its own number.
func wantParams(t *testing.T, what string, g api.Graph, dims ...[]int) {
	t.Helper()
	for k := range dims {
		op := g.Nodes[k].Op
		if op.Kind != api.Param || !slices.Equal(op.At, l(k)) || !slices.Equal(op.Dims, dims[k]) {
			t.Errorf("%s: parameter %d is %v, not with dimensions %v", what, k, op, dims[k])
		}
	}
	if graph.Params(g) != len(dims) {
		t.Errorf("%s: %d parameters come, not %d", what, graph.Params(g), len(dims))
	}
}

// wantOuts: what a right graph gives has these dimensions.
func wantOuts(t *testing.T, what string, g api.Graph, dims ...[]int) {
	t.Helper()
	if got := outDims(t, g); !slices.EqualFunc(got, dims, func(a, b []int) bool { return slices.Equal(a, b) }) {
		t.Errorf("%s: it gives %v, not %v", what, got, dims)
	}
}

// D3, D4: which parameters, and what is given, in which order and with which dimensions: no two have the same.
func TestD3D4ParametersAndOuts(t *testing.T) {
	g := giving(l(4, 1, 3), par(0, 2, 3), par(1, 5), par(2), sum(0, 0), sum(1, 0))
	forward, err := slope.Forward(g)
	if err != api.OK {
		t.Fatal(err)
	}
	wantParams(t, "Forward", forward, l(2, 3), l(5), nil, l(2, 3), l(5), nil)
	wantOuts(t, "Forward", forward, l(2), l(5), l(3), l(2), l(5), l(3))
	reverse, err := slope.Reverse(g)
	if err != api.OK {
		t.Fatal(err)
	}
	wantParams(t, "Reverse", reverse, l(2, 3), l(5), nil, l(2), l(5), l(3))
	wantOuts(t, "Reverse", reverse, l(2, 3), l(5), nil)
	args, slopes := arrays(upTo(2, 3), upTo(5), one(9)), arrays(of(l(2, 3), 1, 0, 0, 0, 10, 0), row(1, 2, 3, 4, 5), one(7))
	told := arrays(row(100, 200), row(5, 4, 3, 2, 1), row(1, 2, 3))
	wantAhead(t, g, args, slopes, row(1, 10), row(1, 2, 3, 4, 5), row(1, 10, 0))
	wantBackward(t, g, args, told, of(l(2, 3), 101, 102, 103, 201, 202, 203), row(5, 4, 3, 2, 1), one(0))
	byHand(t, g, args, slopes, told)
}

func TestD3D4Edges(t *testing.T) {
	// Nothing at all; no parameter; no out.
	wantAhead(t, giving(nil), nil, nil)
	wantBackward(t, giving(nil), nil, nil)
	wantAhead(t, giving(l(0, 0), fill(7, 2)), nil, nil, row(0, 0), row(0, 0))
	wantBackward(t, giving(l(0, 0), fill(7, 2)), nil, arrays(row(1, 2), row(3, 4)))
	wantAhead(t, giving(l(2), fill(7), fill(8), node(api.Mul, 0, 1)), nil, nil, one(0))
	wantBackward(t, giving(l(2), fill(7), fill(8), node(api.Mul, 0, 1)), nil, arrays(one(3)))
	wantAhead(t, giving(nil, par(0, 2), node(api.Mul, 0, 0)), arrays(row(1, 2)), arrays(row(3, 4)))
	wantBackward(t, giving(nil, par(0, 2), node(api.Mul, 0, 0)), arrays(row(1, 2)), nil, row(0, 0))
	wantBackward(t, giving(nil, par(0, 2), par(1), par(2, 0)), arrays(row(1, 2), one(3), row()), nil, row(0, 0), one(0), row())
	// A parameter that is given itself, and once more.
	wantAhead(t, giving(l(0), par(0, 2)), arrays(row(1, 2)), arrays(row(3, 4)), row(3, 4))
	wantBackward(t, giving(l(0), par(0, 2)), arrays(row(1, 2)), arrays(row(3, 4)), row(3, 4))
	wantAhead(t, giving(l(1, 0, 1), par(0, 2), par(1)), arrays(row(1, 2), one(5)), arrays(row(3, 4), one(6)), one(6), row(3, 4), one(6))
	wantBackward(t, giving(l(1, 0, 1), par(0, 2), par(1)), arrays(row(1, 2), one(5)), arrays(one(10), row(3, 4), one(6)), row(3, 4), one(16))
	// One that nothing needs; one that is needed by what nobody needs.
	wantAhead(t, giving(l(1), par(0, 2), par(1)), arrays(row(1, 2), one(5)), arrays(row(3, 4), one(6)), one(6))
	wantBackward(t, giving(l(1), par(0, 2), par(1)), arrays(row(1, 2), one(5)), arrays(one(6)), row(0, 0), one(6))
	wantBackward(t, giving(l(1), par(0, 2), par(1), node(api.Mul, 0, 0), node(api.Add, 1, 1)), arrays(row(1, 2), one(5)), arrays(one(6)), row(0, 0), one(6))
	// One that is needed just for what tells nothing.
	wantAhead(t, giving(l(2), par(0), fill(1), node(api.Less, 0, 1)), arrays(one(0)), arrays(one(5)), one(0))
	wantBackward(t, giving(l(2), par(0), fill(1), node(api.Less, 0, 1)), arrays(one(0)), arrays(one(5)), one(0))
	// One that is given twice, and needed besides.
	g := giving(l(1, 2, 1), par(0), node(api.Mul, 0, 0), node(api.Mul, 1, 0))
	wantAhead(t, g, arrays(one(3)), arrays(one(1)), one(6), one(27), one(6))
	wantBackward(t, g, arrays(one(3)), arrays(one(1), one(10), one(100)), one(6+270+600))
	byHand(t, g, arrays(one(3)), arrays(one(1)), arrays(one(1), one(10), one(100)))
	// Two that are alike.
	g = giving(l(1, 2), par(0), node(api.Mul, 0, 0), node(api.Mul, 0, 0))
	wantAhead(t, g, arrays(one(3)), arrays(one(1)), one(6), one(6))
	wantBackward(t, g, arrays(one(3)), arrays(one(1), one(10)), one(66))
}

// Parameters without entries, or with many dimensions.
func TestD3D4Dimensions(t *testing.T) {
	for _, dims := range [][]int{nil, l(0), l(1), l(0, 4096, 4096), l(1, 1, 1, 1, 1, 1), l(2, 1, 2, 1, 2, 1), l(3, 0, 2)} {
		g := giving(l(2, 0, 3, 1), par(0, dims...), par(1, dims...), node(api.Mul, 0, 1), node(api.Sub, 0, 1))
		a, b := upTo(dims...), entries(noughts(dims), func(i int) int64 { return int64(7*i - 3) })
		byHand(t, g, arrays(a, b), arrays(b, a), arrays(a, b, b, a))
	}
	// As great as there can be.
	dims := l(16, 4096)
	g := giving(l(1), par(0, dims...), node(api.Mul, 0, 0))
	twice := entries(noughts(dims), func(i int) int64 { return int64(2*(i+1)) * 3 })
	three := entries(noughts(dims), func(int) int64 { return 3 })
	wantAhead(t, g, arrays(upTo(dims...)), arrays(three), twice)
	wantBackward(t, g, arrays(upTo(dims...)), arrays(three), twice)
}

// What each of many parameters and outs is told comes in its place.
func TestD3D4Many(t *testing.T) {
	g, args, slopes, told := api.Graph{}, arrays(), arrays(), arrays()
	const many = 40
	for k := range many {
		g.Nodes = append(g.Nodes, par(k, k%3))
		args, slopes = append(args, upTo(k%3)), append(slopes, upTo(k%3))
	}
	for k := range many {
		from := many - 1 - k
		g.Nodes = append(g.Nodes, node(api.Mul, from, (from+3*k)%39/3*3+from%3))
		if k%4 > 0 {
			g.Outs = append(g.Outs, len(g.Nodes)-1)
			told = append(told, entries(upTo(from%3), func(i int) int64 { return int64(100*k + i) }))
		}
	}
	byHand(t, g, args, slopes, told)
}
