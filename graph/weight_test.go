package graph_test

import (
	"slices"
	"testing"

	"adjoint/api"
	"adjoint/graph"
)

// wantWeight: a graph weighs so much, whatever it gives.
func wantWeight(t *testing.T, want int, nodes ...api.Node) {
	t.Helper()
	for _, outs := range [][]int{nil, slices.Repeat(l(0), min(len(nodes), 3))} {
		if got, err := graph.Weight(giving(outs, nodes...)); err != api.OK || got != want {
			t.Errorf("%s: %d, %d comes, not %d", cut(show(giving(outs, nodes...))), got, err, want)
		}
	}
}

func TestG7Weight(t *testing.T) {
	wantWeight(t, 0)
	wantWeight(t, 0, par(0, 9))
	wantWeight(t, 0, par(0, 9), par(1, 4096, 16))
	wantWeight(t, 1, fill(7))
	wantWeight(t, 12, fill(7, 3, 4))
	wantWeight(t, 0, fill(7, 0))
	a, b := par(0, 2, 2), par(1, 2, 2)
	// Example 2 of the document.
	wantWeight(t, 28, a, b, on(api.Op{Kind: api.Dot, At: l(1), Step: l(0)}, 0, 1))
	wantWeight(t, 12, a, b, node(api.Add, 0, 1))
	wantWeight(t, 12, a, b, node(api.Add, 0, 0))
	wantWeight(t, 16, a, b, node(api.Pick, 0, 0, 1))
	wantWeight(t, 6, a, b, sum(0, 1))
	wantWeight(t, 16+8+8, a, b, on(api.Op{Kind: api.Join, At: l(0)}, 0, 1))
	wantWeight(t, 12+12+12*3, a, b, on(api.Op{Kind: api.Join, At: l(0)}, 0, 1, 0))
	// All nodes, one behind the other: such as nobody needs, and such as are alike.
	wantWeight(t, 12+12+28+6, a, b, node(api.Add, 0, 1), node(api.Add, 0, 1), on(api.Op{Kind: api.Dot, At: l(1), Step: l(0)}, 2, 3), sum(1, 4))
	wantWeight(t, 3*4095, chain(4095).Nodes...)
	wantWeight(t, 4096*65536, slices.Repeat([]api.Node{fill(1, 4096, 16)}, 4096)...)
	// Example 3.
	wantWeight(t, 6+3+1+3, par(0, 2), node(api.Mul, 0, 0), sum(0, 1), fill(1), node(api.Sub, 2, 3))
}

func TestG7EachKind(t *testing.T) {
	// What each node of every() weighs.
	weights := l(0, 0, 0, 6, 18, 18, 18, 18, 18, 24, 30, 30, 12, 12, 9, 13, 20, 4+6+6+24, 8+8+2*8, 14+14+42, 4+14+4, 20+8+2)
	g, sum := every(), 0
	for k, weight := range weights {
		sum += weight
		g.Outs = l(0)
		g.Nodes = every().Nodes[:k+1]
		if got, err := graph.Weight(g); err != api.OK || got != sum {
			t.Errorf("%d nodes: %d, %d comes, not %d", k+1, got, err, sum)
		}
	}
}
