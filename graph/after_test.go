package graph_test

import (
	"slices"
	"testing"

	"adjoint/api"
	"adjoint/graph"
)

// wantAfter: g of what f gives is this graph.
func wantAfter(t *testing.T, f, g, want api.Graph) {
	t.Helper()
	isGraph(t, "After of "+show(f)+" and "+show(g), want)(graph.After(f, g))
	wantTidy(t, want, want)
}

func TestG6Ordinary(t *testing.T) {
	square := giving(l(1), par(0), node(api.Mul, 0, 0))
	wantAfter(t, square, square, giving(l(2), par(0), node(api.Mul, 0, 0), node(api.Mul, 1, 1)))
	// Two are given, and taken the other way round.
	two := giving(l(2, 3), par(0), par(1), node(api.Add, 0, 1), node(api.Sub, 0, 1))
	wantAfter(t, two, giving(l(2), par(0), par(1), node(api.Less, 1, 0)), giving(l(4), par(0), par(1), node(api.Sub, 0, 1), node(api.Add, 0, 1), node(api.Less, 2, 3)))
	// One that is given twice; one that nothing needs; one that is handed on; one that is given often.
	wantAfter(t, giving(l(1, 1), par(0), node(api.Mul, 0, 0)), giving(l(2), par(0), par(1), node(api.Add, 0, 1)), giving(l(2), par(0), node(api.Mul, 0, 0), node(api.Add, 1, 1)))
	wantAfter(t, two, giving(l(2), par(0), par(1), node(api.Mul, 1, 1)), giving(l(3), par(0), par(1), node(api.Sub, 0, 1), node(api.Mul, 2, 2)))
	wantAfter(t, two, giving(l(1, 0, 1), par(0), par(1)), giving(l(2, 3, 2), par(0), par(1), node(api.Sub, 0, 1), node(api.Add, 0, 1)))
	wantAfter(t, giving(l(1, 0), par(0), par(1)), giving(l(2), par(0), par(1), node(api.Sub, 0, 1)), giving(l(2), par(0), par(1), node(api.Sub, 1, 0)))
	// With dimensions.
	wantAfter(t, giving(l(1), par(0, 2, 3), sum(1, 0)), giving(l(1, 1), par(0, 2), sum(0, 0)), giving(l(2, 2), par(0, 2, 3), sum(1, 0), sum(0, 1)))
	// The fields of a parameter of g mean nothing but its dimensions.
	odd := giving(l(0), par(0, 2))
	odd.Nodes[0].Op.Value, odd.Nodes[0].Op.Lo = 7, l(8)
	wantAfter(t, odd, odd, giving(l(0), par(0, 2)))
}

func TestG6Edges(t *testing.T) {
	none := giving(nil)
	wantAfter(t, none, none, none)
	// f gives nothing, g takes nothing: f's parameters stay.
	wantAfter(t, giving(nil, par(0, 3), sum(0, 0)), none, giving(nil, par(0, 3)))
	wantAfter(t, none, giving(l(0), fill(5)), giving(l(0), fill(5)))
	wantAfter(t, giving(nil, par(0, 3), par(1)), giving(l(0, 0), fill(5)), giving(l(2, 2), par(0, 3), par(1), fill(5)))
	// g gives nothing.
	wantAfter(t, giving(l(1), par(0), node(api.Add, 0, 0)), giving(nil, par(0), node(api.Mul, 0, 0)), giving(nil, par(0)))
	// Parameters alone, of either.
	same := giving(l(0, 1), par(0, 2), par(1))
	wantAfter(t, same, same, same)
	wantAfter(t, same, every2(), giving(l(3), par(0, 2), par(1), spread(1, 2), node(api.Add, 0, 2)))
	wantAfter(t, every2(), giving(l(0), par(0, 2)), giving(l(3), par(0, 2), par(1), spread(1, 2), node(api.Add, 0, 2)))
	// Without parameters.
	wantAfter(t, giving(l(0, 0), fill(5)), giving(l(2), par(0), par(1), node(api.Add, 0, 1)), giving(l(1), fill(5), node(api.Add, 0, 0)))
}

// every2 is a graph of something with dimensions and something without.
func every2() api.Graph {
	return giving(l(3), par(0, 2), par(1), spread(1, 2), node(api.Add, 0, 2))
}

// What comes is tidy: alike nodes of the two graphs are one; the order is that of G4.
func TestG6Tidy(t *testing.T) {
	// f is not tidy, g neither.
	f := giving(l(4, 3), par(0), fill(9), fill(8), node(api.Mul, 0, 2), node(api.Add, 0, 2), node(api.Sub, 0, 1))
	g := giving(l(6), par(0), par(1), fill(9), fill(8), node(api.Add, 1, 3), node(api.Mul, 0, 2), node(api.Max, 4, 0))
	wantAfter(t, f, g, giving(l(5), par(0), fill(8), node(api.Mul, 0, 1), node(api.Add, 2, 1), node(api.Add, 0, 1), node(api.Max, 3, 4)))
	// An operation of g that is alike to one of f once its arg stands for what f gives.
	wantAfter(t, giving(l(0, 1), par(0), node(api.Mul, 0, 0)), giving(l(3), par(0), par(1), node(api.Mul, 0, 0), node(api.Sub, 1, 2)),
		giving(l(2), par(0), node(api.Mul, 0, 0), node(api.Sub, 1, 1)))
	wantAfter(t, giving(l(0, 0), par(0)), giving(l(2, 3, 4), par(0), par(1), node(api.Sub, 0, 1), node(api.Sub, 1, 0), node(api.Sub, 1, 1)),
		giving(l(1, 1, 1), par(0), node(api.Sub, 0, 0)))
	// What f needs for the second arg of g comes behind what it needs for the first one.
	wantAfter(t, giving(l(3, 1, 2), par(0), fill(1), fill(2), fill(3)), giving(l(4), par(0), par(1), par(2), node(api.Sub, 2, 1), node(api.Sub, 3, 0)),
		giving(l(5), par(0), fill(2), fill(1), node(api.Sub, 1, 2), fill(3), node(api.Sub, 3, 4)))
	// Something of f that does not stand first there: what g gives says what comes first.
	wantAfter(t, giving(l(1, 2), par(0), fill(1), fill(2)), giving(l(1, 2, 0), par(0), par(1), fill(0)), giving(l(1, 2, 3), par(0), fill(2), fill(0), fill(1)))
}

func TestG6Wrong(t *testing.T) {
	fine := giving(l(0), par(0, 2))
	// Of f first, whatever is wrong with g.
	bad := []struct {
		g   api.Graph
		err api.Errno
	}{
		{giving(l(1), par(0, 2)), api.ErrRange}, {giving(nil, node(api.Add, 0, 1)), api.ErrOrder}, {giving(nil, par(1)), api.ErrForm}, {giving(nil, node(0)), api.ErrKind},
		{giving(nil, node(api.Add)), api.ErrMany}, {giving(nil, par(0, 2), sum(1, 0)), api.ErrShape}, {giving(nil, par(0, ones(7)...)), api.ErrRank}, {giving(nil, make([]api.Node, 4097)...), api.ErrMuch},
	}
	for _, a := range bad {
		for _, b := range bad {
			noGraph(t, "both", a.err)(graph.After(a.g, b.g))
		}
		noGraph(t, "first", a.err)(graph.After(a.g, fine))
		noGraph(t, "second", a.err)(graph.After(fine, a.g))
		noGraph(t, "second, nothing given", a.err)(graph.After(giving(nil), a.g))
	}
	// Another number, whatever their dimensions.
	for _, c := range []struct{ f, g api.Graph }{
		{giving(nil), fine}, {fine, giving(nil)}, {fine, giving(l(0), fill(1))}, {giving(l(0, 0), par(0, 2)), fine}, {giving(nil, par(0, 2)), fine},
		{fine, giving(nil, par(0, 2), par(1, 2))}, {fine, giving(nil, par(0, 3), par(1, 2))}, {giving(l(0, 0), par(0, 3)), fine}, {fine, giving(nil, par(0), par(1))},
		{giving(slices.Repeat(l(0), 5000), par(0, 2)), fine}, {giving(slices.Repeat(l(0), 5000), par(0, 3)), fine},
	} {
		noGraph(t, show(c.f)+" and "+show(c.g), api.ErrMany)(graph.After(c.f, c.g))
	}
	// Other dimensions, of any of them, even if nothing needs it.
	for _, dims := range [][]int{nil, l(3), l(2, 1), l(1, 2), l(0), l(2, 2)} {
		other := giving(nil, par(0, dims...))
		noGraph(t, "dims", api.ErrShape)(graph.After(fine, other))
		other.Outs = l(0)
		noGraph(t, "dims", api.ErrShape)(graph.After(other, fine))
		noGraph(t, "dims", api.ErrShape)(graph.After(giving(l(0, 0), par(0, 2)), giving(nil, par(0, 2), par(1, dims...))))
		noGraph(t, "dims", api.ErrShape)(graph.After(giving(l(1, 0), par(0, 2), par(1, dims...)), giving(nil, par(0, 2), par(1, dims...))))
		isGraph(t, "dims", giving(nil, par(0, 2), par(1, dims...)))(graph.After(giving(l(1, 0), par(0, 2), par(1, dims...)), giving(nil, par(0, dims...), par(1, 2))))
	}
	// The dimensions of what is given, not of a parameter.
	noGraph(t, "sum", api.ErrShape)(graph.After(giving(l(1), par(0, 2), sum(0, 0)), fine))
	isGraph(t, "sum", giving(l(1), par(0, 2, 9), sum(1, 0)))(graph.After(giving(l(1), par(0, 2, 9), sum(1, 0)), fine))
}

func TestG6MostNodes(t *testing.T) {
	for _, c := range []struct {
		f, g, nodes int
	}{{2047, 2048, 4096}, {2048, 2047, 4096}, {2048, 2048, 0}, {4095, 0, 4096}, {0, 4095, 4096}, {4095, 1, 0}, {1, 4095, 0}, {4095, 4095, 0}, {100, 200, 301}} {
		got, err := graph.After(chain(c.f), chain(c.g))
		if c.nodes == 0 {
			noGraph(t, "After", api.ErrMuch)(got, err)
			continue
		}
		isGraph(t, "After", chain(c.f+c.g))(got, err)
		if len(got.Nodes) != c.nodes {
			t.Errorf("%d nodes come, not %d", len(got.Nodes), c.nodes)
		}
	}
	// What nobody needs does not count, nor what is alike: of 4,096 and 4,096 nodes there are few.
	f, g := chain(4095), chain(4095)
	f.Outs, g.Outs = l(7), l(9)
	isGraph(t, "few", chain(16))(graph.After(f, g))
	f.Outs, g.Outs = l(0), l(4095)
	isGraph(t, "the second", chain(4095))(graph.After(f, g))
	// Two parameters, and a chain of the first one: f has the same.
	f.Outs, g = l(0, 4095), giving(l(1, 4095), par(0), par(1), node(api.Add, 0, 0))
	for k := 3; k < 4096; k++ {
		g.Nodes = append(g.Nodes, node(api.Add, k-1, k-1))
	}
	want := chain(4095)
	want.Outs = l(4095, 4094)
	isGraph(t, "alike", want)(graph.After(f, g))
	// Parameters that nobody needs count.
	var all []api.Node
	for k := range 4096 {
		all = append(all, par(k))
	}
	isGraph(t, "parameters", giving(l(9), all...))(graph.After(giving(l(9), all...), giving(l(0), par(0))))
	noGraph(t, "parameters", api.ErrMuch)(graph.After(giving(l(9), all...), chain(1)))
	noGraph(t, "parameters", api.ErrMuch)(graph.After(giving(nil, all...), giving(l(0), fill(1))))
	isGraph(t, "parameters", giving(l(4095), append(slices.Clone(all[:4095]), fill(1))...))(graph.After(giving(nil, all[:4095]...), giving(l(0), fill(1))))
	// ErrMuch comes last.
	noGraph(t, "much", api.ErrMany)(graph.After(chain(4095), giving(l(4001), append([]api.Node{par(0), par(1)}, chain(4000).Nodes[1:]...)...)))
	wide := chain(4095)
	wide.Nodes[0] = par(0, 2)
	noGraph(t, "much", api.ErrShape)(graph.After(chain(4095), wide))
}
