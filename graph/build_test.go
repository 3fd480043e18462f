package graph_test

import (
	"fmt"
	"slices"
	"strings"
	"testing"

	"adjoint/api"
	"adjoint/graph"
	"adjoint/sense"
)

// wantBuild: the graph of the last function of a program is this one.
func wantBuild(t *testing.T, s string, want api.Graph, dims ...[]int) {
	t.Helper()
	p := read(t, s)
	isGraph(t, "Build of "+s, want)(graph.Build(p, p[len(p)-1].Name, dims))
	wantTidy(t, want, want)
}

// wantNoBuild: Build of the last function of a program tells this error, and nothing else.
func wantNoBuild(t *testing.T, s string, want api.Errno, dims ...[]int) {
	t.Helper()
	p := read(t, s)
	noGraph(t, fmt.Sprintf("Build of %s with %v", s, dims), want)(graph.Build(p, p[len(p)-1].Name, dims))
}

// spread is something without dimensions, spread to some.
func spread(of int, dims ...int) api.Node { return on(api.Op{Kind: api.Spread, Dims: dims}, of) }

func TestG5EachTree(t *testing.T) {
	// Numbers and names.
	wantBuild(t, "fn f() = 7;", giving(l(0), fill(7)))
	wantBuild(t, "fn f(x: []) = x;", giving(l(0), par(0)), nil)
	wantBuild(t, "fn f(x: [n], y: [n m]) = y;", giving(l(1), par(0, 3), par(1, 3, 2)), l(3), l(3, 2))
	wantBuild(t, "fn f(x: [n], y: []) = 7;", giving(l(2), par(0, 3), par(1), fill(7)), l(3), nil)
	// Lets: what is let is there once, or not at all; names within others.
	wantBuild(t, "fn f(x: []) = let y = x * x in y - y * x;", giving(l(3), par(0), node(api.Mul, 0, 0), node(api.Mul, 1, 0), node(api.Sub, 1, 2)), nil)
	wantBuild(t, "fn f(x: []) = let y = x * x in x;", giving(l(0), par(0)), nil)
	wantBuild(t, "fn f(x: []) = let x = x * x in x + x;", giving(l(2), par(0), node(api.Mul, 0, 0), node(api.Add, 1, 1)), nil)
	wantBuild(t, "fn f(x: []) = (let x = x * x in x) + x;", giving(l(2), par(0), node(api.Mul, 0, 0), node(api.Add, 1, 0)), nil)
	// Repeats: each turn is there.
	wantBuild(t, "fn f(x: []) = repeat 3 y = x * x with y + x;", giving(l(4), par(0), node(api.Mul, 0, 0), node(api.Add, 1, 0), node(api.Add, 2, 0), node(api.Add, 3, 0)), nil)
	wantBuild(t, "fn f(x: []) = repeat 0 y = x * x with y + x;", giving(l(1), par(0), node(api.Mul, 0, 0)), nil)
	wantBuild(t, "fn f(x: []) = repeat 9 y = x with x + 1;", giving(l(2), par(0), fill(1), node(api.Add, 0, 1)), nil)
	// Functions leave no trace.
	wantBuild(t, "fn g(a: [], b: []) = b - a; fn f(x: [], y: []) = g(x * y, g(y, x));", giving(l(4), par(0), par(1), node(api.Sub, 0, 1), node(api.Mul, 0, 1), node(api.Sub, 2, 3)), nil, nil)
	wantBuild(t, "fn g(a: [n]) = reform[n 1](a); fn f(x: [m]) = g(x) * 2;",
		giving(l(4), par(0, 3), on(api.Op{Kind: api.Reform, Dims: l(3, 1)}, 0), fill(2), spread(2, 3, 1), node(api.Mul, 1, 3)), l(3))
	// Values without dimensions are spread, as Run does.
	wantBuild(t, "fn f(x: [2]) = x + 1;", giving(l(3), par(0, 2), fill(1), spread(1, 2), node(api.Add, 0, 2)), l(2))
	wantBuild(t, "fn f(x: [2], y: []) = pick(y, x, y) - max(1, x) * less(x, 1);", giving(l(9), par(0, 2), par(1), spread(1, 2), node(api.Pick, 2, 0, 2),
		fill(1), spread(4, 2), node(api.Max, 5, 0), node(api.Less, 0, 5), node(api.Mul, 6, 7), node(api.Sub, 3, 8)), l(2), nil)
}

// Each operation of the language, with its fields.
func TestG5EachOperation(t *testing.T) {
	for _, c := range []struct {
		expr string
		node api.Node
	}{
		{"x + y", node(api.Add, 0, 1)},
		{"y - x", node(api.Sub, 1, 0)},
		{"x * x", node(api.Mul, 0, 0)},
		{"max(x, y)", node(api.Max, 0, 1)},
		{"less(y, x)", node(api.Less, 1, 0)},
		{"pick(x, y, x)", node(api.Pick, 0, 1, 0)},
		{"spread[4 n m]{1 2}(x)", on(api.Op{Kind: api.Spread, Dims: l(4, 2, 3), At: l(1, 2)}, 0)},
		{"sum{0 1}(x)", on(api.Op{Kind: api.Sum, At: l(0, 1)}, 0)},
		{"sum{}(x)", on(api.Op{Kind: api.Sum}, 0)},
		{"turn{1 0}(y)", on(api.Op{Kind: api.Turn, At: l(1, 0)}, 1)},
		{"flip{1}(x)", on(api.Op{Kind: api.Flip, At: l(1)}, 0)},
		{"reform[m 1 n](x)", on(api.Op{Kind: api.Reform, Dims: l(3, 1, 2)}, 0)},
		{"cut{0 1}{2 3}{1 2}(x)", on(api.Op{Kind: api.Cut, Lo: l(0, 1), Hi: l(2, 3), Step: l(1, 2)}, 0)},
		{"pad{0 1}{2 3}{1 2}(x)", on(api.Op{Kind: api.Pad, Lo: l(0, 1), Hi: l(2, 3), Step: l(1, 2)}, 0)},
		{"dot{1}{1}(x, y)", on(api.Op{Kind: api.Dot, At: l(1), Step: l(1)}, 0, 1)},
		{"dot{1}{1}{}{}(x, y)", on(api.Op{Kind: api.Dot, At: l(1), Step: l(1)}, 0, 1)},
		{"dot{1}{1}{0}{0}(y, x)", on(api.Op{Kind: api.Dot, At: l(1), Step: l(1), Lo: l(0), Hi: l(0)}, 1, 0)},
		{"join{1}(x, y, x)", on(api.Op{Kind: api.Join, At: l(1)}, 0, 1, 0)},
		{"take(x, y)", node(api.Take, 0, 1)},
		{"put[m](x, y)", on(api.Op{Kind: api.Put, Dims: l(3)}, 0, 1)},
	} {
		wantBuild(t, "fn f(x: [n m], y: [n m]) = "+c.expr+";", giving(l(2), par(0, 2, 3), par(1, 2, 3), c.node), l(2, 3), l(2, 3))
	}
}

// What is given is tidy: only what is needed, nothing twice, in the order of G4.
func TestG5Tidy(t *testing.T) {
	wantBuild(t, "fn f(x: []) = x * x - x * x;", giving(l(2), par(0), node(api.Mul, 0, 0), node(api.Sub, 1, 1)), nil)
	wantBuild(t, "fn f(x: []) = 1 + x - (1 + x) * (x + 1);", giving(l(5), par(0), fill(1), node(api.Add, 1, 0), node(api.Add, 0, 1), node(api.Mul, 2, 3), node(api.Sub, 2, 4)), nil)
	wantBuild(t, "fn g(x: [n]) = sum{0}(x + 1); fn f(x: [n]) = g(x) * g(x) * g(2 * x);", giving(l(11), par(0, 4),
		fill(1), spread(1, 4), node(api.Add, 0, 2), sum(0, 3), node(api.Mul, 4, 4), fill(2), spread(6, 4), node(api.Mul, 7, 0), node(api.Add, 8, 2), sum(0, 9), node(api.Mul, 5, 10)), l(4))
	// What Run makes first need not stand first: here 5 is made ahead of 6, and needed behind it.
	wantBuild(t, "fn f() = let a = 5 in let b = 6 in b - a;", giving(l(2), fill(6), fill(5), node(api.Sub, 0, 1)))
	wantBuild(t, "fn f(x: [2]) = let a = 5 in pick(x, a + x, 6);",
		giving(l(6), par(0, 2), fill(5), spread(1, 2), node(api.Add, 2, 0), fill(6), spread(4, 2), node(api.Pick, 0, 3, 5)), l(2))
	// The same text with other dimensions has another graph.
	const s = "fn f(x: [n], y: [n]) = reform[n 1](x) * 0 + reform[n 1](y);"
	for _, n := range []int{0, 1, 5} {
		wantBuild(t, s, giving(l(7), par(0, n), par(1, n), on(api.Op{Kind: api.Reform, Dims: l(n, 1)}, 0), fill(0), spread(3, n, 1), node(api.Mul, 2, 4),
			on(api.Op{Kind: api.Reform, Dims: l(n, 1)}, 1), node(api.Add, 5, 6)), l(n), l(n))
	}
}

func TestG5WhatCheckSays(t *testing.T) {
	const two = "fn g(x: [n]) = x; fn f(x: [n], y: [n 2]) = "
	wantNoBuild(t, "fn f(x: []) = y;", api.ErrName, nil)
	wantNoBuild(t, "fn f(x: []) = sum(x);", api.ErrForm, nil)
	wantNoBuild(t, "fn f(x: []) = max(x);", api.ErrMany, nil)
	wantNoBuild(t, two+"x;", api.ErrMany)
	wantNoBuild(t, two+"x;", api.ErrMany, l(2))
	wantNoBuild(t, two+"x;", api.ErrMany, l(-1), l(-1), l(-1))
	wantNoBuild(t, two+"x;", api.ErrShape, l(2), l(2))
	wantNoBuild(t, two+"x;", api.ErrShape, l(2), l(3, 2))
	wantNoBuild(t, two+"x;", api.ErrShape, l(2), l(2, 3))
	wantNoBuild(t, two+"x;", api.ErrShape, nil, ones(7))
	wantNoBuild(t, two+"x;", api.ErrRank, ones(7), nil)
	wantNoBuild(t, two+"x;", api.ErrRange, l(4097), l(4097, 2))
	wantNoBuild(t, two+"x;", api.ErrRange, l(-1), l(-1, 2))
	wantNoBuild(t, two+"x;", api.ErrMuch, l(4096, 17), nil)
	wantNoBuild(t, two+"x + y;", api.ErrShape, l(2), l(2, 2))
	wantNoBuild(t, two+"g(y);", api.ErrShape, l(2), l(2, 2))
	wantNoBuild(t, two+"repeat 65 z = x with z;", api.ErrRange, l(2), l(2, 2))
	wantNoBuild(t, two+"spread[4096 17]{}(1);", api.ErrMuch, l(2), l(2, 2))
	wantNoBuild(t, two+"repeat 64 z = x with repeat 64 z = z with z;", api.ErrMuch, l(2), l(2, 2))
	// What is wrong with something that nobody needs is wrong all the same.
	wantNoBuild(t, two+"let z = x + y in 1;", api.ErrShape, l(2), l(2, 2))
	wantNoBuild(t, two+"let z = (repeat 65 z = x with z) in sum{9}(x);", api.ErrRange, l(2), l(2, 2))
	p := read(t, two+"x;")
	for _, name := range []string{"", "h", "x", "sum", "F"} {
		for _, dims := range [][][]int{nil, {l(2), l(2, 2)}, {l(-1)}} {
			noGraph(t, "Build of "+name, api.ErrName)(graph.Build(p, name, dims))
		}
	}
	noGraph(t, "no program", api.ErrName)(graph.Build(nil, "f", nil))
	noGraph(t, "no tree", api.ErrForm)(graph.Build([]api.Func{{Name: "f"}}, "f", nil))
	noGraph(t, "no name", api.ErrForm)(graph.Build([]api.Func{{Name: "9", Body: api.Tree{Kind: api.TreeNumber}}}, "f", [][]int{l(-1)}))
	isGraph(t, "another function", giving(l(0), par(0, 3)))(graph.Build(p, "g", [][]int{l(3)}))
}

// lets is a text that makes so many operations, each of which needs the one ahead of it, and lets x be what the last one makes; behind it the body stands.
func lets(many int) string {
	s := ""
	for ; many > 0; many -= 128 {
		products := min(many, 64)
		s += "let x = x" + strings.Repeat(" * x", products) + strings.Repeat(" + x", min(many, 128)-products) + " in "
	}
	return s
}

func TestG5MostNodes(t *testing.T) {
	const x, xy, xyz = "x: []", "x: [], y: []", "x: [], y: [], z: []"
	for _, c := range []struct {
		given string
		body  string
		steps int
		nodes int
	}{
		{x, lets(3900) + "x", 3900, 3901},
		// One parameter, and as many operations as there may be beside it; and one more, which Check lets pass.
		{x, lets(4095) + "x", 4095, 4096},
		{x, lets(4096) + "x", 4096, 0},
		{xy, lets(4094) + "x", 4094, 4096},
		{xy, lets(4095) + "x", 4095, 0},
		{xyz, lets(4093) + "y - x", 4094, 0},
		{"", "let x = 1 in " + lets(4095) + "x", 4096, 4096},
		// What nobody needs, and what is there already, does not count.
		{x, "let y = x * 5 in " + lets(4094) + "x", 4096, 4095},
		{x, "let y = x + 5 in let z = x * x in " + lets(4093) + "x", 4096, 4094},
		{x, lets(4092) + "(x * 3 - x * 3) * 3", 4099, 0},
		{x, lets(4089) + "(x * 3 - x * 3) * 3", 4096, 4094},
		{x, lets(4089) + "x * x * x * x - x * x * x", 4095, 4094},
		{x, lets(4093) + "x - x - x", 4095, 4096},
		{xyz, lets(4090) + "(let z = x * x * x in x - y)", 4093, 4094},
		{xyz, lets(4092) + "(let z = x * x * x in x - y)", 4095, 4096},
		{xyz, lets(4093) + "(let z = x * x in x - y)", 4096, 0},
		{xyz, "let a = x in " + lets(4096) + "a", 4096, 3},
	} {
		p := read(t, "fn f("+c.given+") = "+c.body+";")
		dims := make([][]int, len(p[0].Given))
		_, wantErr := sense.Check(p, "f", dims)
		if (wantErr == api.OK) != (c.steps <= 4096) {
			t.Fatalf("%s, %s: Check tells %d", c.given, cut(c.body), wantErr)
		}
		got, err := graph.Build(p, "f", dims)
		if c.nodes == 0 {
			noGraph(t, c.given+c.body, api.ErrMuch)(got, err)
			continue
		}
		if err != api.OK || len(got.Nodes) != c.nodes || graph.Wrong(got) != api.OK {
			t.Errorf("%s, %s: %d nodes, %d comes, not %d", c.given, cut(c.body), len(got.Nodes), err, c.nodes)
		}
		isGraph(t, c.given+c.body, got)(graph.Tidy(got))
	}
}

// Parameters alone: as many as a graph may have, and one more.
func TestG5MostParameters(t *testing.T) {
	for _, c := range []struct {
		many int
		body string
		err  api.Errno
	}{{4096, "aa0", api.OK}, {4097, "aa0", api.ErrMuch}, {4096, "7", api.ErrMuch}, {4095, "7", api.OK}, {4095, "aa0 * aa1", api.OK}, {4096, "aa0 * aa1", api.ErrMuch},
		{4095, "aa0 * aa1 * aa2", api.ErrMuch}, {4096, "let x = 7 in aa4095", api.OK}, {4097, "sum{0}(aa0)", api.ErrShape}, {4097, "repeat 65 x = 1 with x", api.ErrRange}} {
		var all []string
		want := api.Graph{}
		for k := range c.many {
			all = append(all, fmt.Sprintf("aa%d: []", k))
			want.Nodes = append(want.Nodes, par(k))
		}
		p := read(t, "fn f("+strings.Join(all, ", ")+") = "+c.body+";")
		got, err := graph.Build(p, "f", make([][]int, c.many))
		if c.err != api.OK {
			noGraph(t, fmt.Sprint(c.many, c.body), c.err)(got, err)
			continue
		}
		if err != api.OK || len(got.Nodes) < c.many || !sameGraph(giving(nil, got.Nodes[:c.many]...), want) {
			t.Errorf("%d, %s: %d nodes, %d comes", c.many, c.body, len(got.Nodes), err)
		}
	}
}

// As many args as a text has room for, as often as it may be: the graph is great, but it comes.
func TestG5GreatJoins(t *testing.T) {
	p := read(t, "fn f(x: [n]) = repeat 20 y = x with join{0}(y"+strings.Repeat(", x", 21000)+");")
	g, err := graph.Build(p, "f", [][]int{l(0)})
	if err != api.OK || len(g.Nodes) != 21 || len(g.Nodes[20].Args) != 21001 || !slices.Equal(g.Nodes[20].Args[:3], l(19, 0, 0)) {
		t.Errorf("%d nodes, %d comes", len(g.Nodes), err)
	}
}
