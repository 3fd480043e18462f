package slope_test

import (
	"slices"
	"testing"

	"adjoint/api"
	"adjoint/graph"
)

// wrongs are wrong graphs, and what is wrong with them.
func wrongs() map[api.Errno]api.Graph {
	return map[api.Errno]api.Graph{
		api.ErrOrder: giving(nil, par(0), node(api.Add, 0, 1)),
		api.ErrForm:  giving(nil, par(1)),
		api.ErrMany:  giving(nil, par(0), node(api.Add, 0)),
		api.ErrKind:  giving(nil, par(0), node(20)),
		api.ErrShape: giving(nil, par(0, 2), par(1, 3), node(api.Add, 0, 1)),
		api.ErrRank:  giving(nil, par(0, 1, 1, 1, 1, 1, 1, 1)),
		api.ErrRange: giving(l(0, -1), par(0)),
		api.ErrMuch:  giving(nil, par(0, 4096, 17)),
	}
}

func TestD1Wrong(t *testing.T) {
	for want, g := range wrongs() {
		if err := graph.Wrong(g); err != want {
			t.Fatalf("%s: %d, not %d", show(g), err, want)
		}
		wantErr(t, show(g), g, want)
	}
	for _, c := range []struct {
		g    api.Graph
		want api.Errno
	}{
		{giving(l(-1), par(0)), api.ErrRange}, {giving(l(3)), api.ErrRange}, {giving(l(0, 1), fill(0)), api.ErrRange}, {giving(nil, par(0, -1)), api.ErrRange}, {giving(nil, par(0, 4097)), api.ErrRange},
		{giving(l(0), fill(0), par(1)), api.ErrForm}, {giving(l(0), node(0)), api.ErrKind}, {giving(l(0), node(-1)), api.ErrKind}, {giving(nil, node(api.Add, 0, 0)), api.ErrOrder}, {giving(nil, par(0), node(api.Sum, -1)), api.ErrOrder},
		{giving(nil, api.Node{Op: par(1).Op, Args: nil}), api.ErrForm}, {giving(nil, par(0), api.Node{Op: par(1).Op, Args: l(0)}), api.ErrMany}, {giving(nil, par(0), node(api.Take, 0, 0)), api.ErrShape},
	} {
		wantErr(t, show(c.g), c.g, c.want)
	}
}

// parts are the nodes, the args and the Outs of a graph together.
func parts(g api.Graph) int {
	many := len(g.Nodes) + len(g.Outs)
	for _, node := range g.Nodes {
		many += len(node.Args)
	}
	return many
}

// grown is a graph with so many nodes more that nobody needs, each without args.
func grown(g api.Graph, many int) api.Graph {
	out := giving(g.Outs, slices.Clone(g.Nodes)...)
	for k := range many {
		out.Nodes = append(out.Nodes, fill(int64(k)))
	}
	return out
}

// fits are graphs that have just as many nodes, args and Outs as there may be: of each far more than of the others, and of all some.
func fits() map[string]api.Graph {
	wide := giving(l(1), par(0, 1), on(api.Op{Kind: api.Join, At: l(0)}, slices.Repeat(l(0), 509)...))
	deep := giving(l(170), par(0))
	for k := range 170 {
		deep.Nodes = append(deep.Nodes, node(api.Add, k, k))
	}
	three := giving(l(128), par(0))
	for k := range 127 {
		three.Nodes = append(three.Nodes, node(api.Pick, k, k, k))
	}
	three.Nodes = append(three.Nodes, on(api.Op{Kind: api.Sum}, 127))
	var params []api.Node
	for k := range 500 {
		params = append(params, par(k, k%4))
	}
	return map[string]api.Graph{
		"nodes":      grown(giving(nil), 512),
		"parameters": giving(slices.Repeat(l(7), 12), params...),
		"args":       wide,
		"outs":       giving(slices.Repeat(l(0), 511), par(0, 3)),
		"deep":       deep,
		"three":      three,
	}
}

func TestD1MaxSlope(t *testing.T) {
	for what, g := range fits() {
		if parts(g) != 512 {
			t.Fatalf("%s: %d parts", what, parts(g))
		}
		ahead(t, g)
		backward(t, g)
		wantErr(t, what+", a node more", grown(g, 1), api.ErrMuch)
		more := g
		more.Outs = append(slices.Clone(g.Outs), 0)
		wantErr(t, what+", an out more", more, api.ErrMuch)
		// Far more of it.
		wantErr(t, what+", many nodes more", grown(g, 3000), api.ErrMuch)
		more.Outs = make([]int, 100000)
		wantErr(t, what+", many outs more", more, api.ErrMuch)
	}
	// An arg more.
	wide := fits()["args"]
	wide.Nodes[1].Args = append(wide.Nodes[1].Args, 0)
	wantErr(t, "an arg more", wide, api.ErrMuch)
	wide.Nodes[1].Args = wide.Nodes[1].Args[:510]
	wide.Outs = nil
	ahead(t, wide)
	backward(t, wide)
	// Nodes that are alike, or that nobody needs, count as they stand.
	alike := giving(l(0), par(0))
	for range 171 {
		alike.Nodes = append(alike.Nodes, node(api.Mul, 0, 0))
	}
	wantErr(t, "alike", alike, api.ErrMuch)
	alike.Nodes = alike.Nodes[:171]
	backward(t, alike)
	ahead(t, alike)
	// The parts of all sorts at the edge: what comes is worth what it should be.
	deep := fits()["deep"]
	wantAhead(t, deep, arrays(one(3)), arrays(one(5)), one(0))
	deep.Outs = l(60)
	wantAhead(t, deep, arrays(one(3)), arrays(one(5)), one(5<<60))
	wantBackward(t, deep, arrays(one(3)), arrays(one(7)), one(7<<60))
}

// What is wrong comes ahead of what is too much.
func TestD1WhichFirst(t *testing.T) {
	for want, g := range wrongs() {
		wantErr(t, "many nodes", grown(g, 600), want)
	}
	for want, g := range wrongs() {
		if want == api.ErrRange {
			continue
		}
		g.Outs = make([]int, 600)
		wantErr(t, "many outs", g, want)
	}
	g := giving(make([]int, 600), par(0))
	g.Outs[599] = 1
	wantErr(t, "the last out", g, api.ErrRange)
	g = grown(giving(nil), 600)
	g.Nodes[599] = node(api.Add, 0)
	wantErr(t, "the last node", g, api.ErrMany)
	// More nodes than a graph may have: whatever is wrong with one.
	wantErr(t, "4,097 nodes", giving(l(-1), make([]api.Node, 4097)...), api.ErrMuch)
}
