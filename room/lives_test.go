package room_test

import (
	"slices"
	"testing"

	"adjoint/api"
	"adjoint/graph"
	"adjoint/room"
	"adjoint/text"
)

// par is a parameter.
func par(k int, dims ...int) api.Node {
	return api.Node{Op: api.Op{Kind: api.Param, Dims: dims, At: l(k)}}
}

// node is one of an operation without fields.
func node(kind int, args ...int) api.Node { return api.Node{Op: api.Op{Kind: kind}, Args: args} }

// fill is a node that is one number everywhere.
func fill(dims ...int) api.Node { return api.Node{Op: api.Op{Kind: api.Fill, Dims: dims, Value: 3}} }

// sum is one that adds up along the first dimension.
func sum(of int) api.Node { return api.Node{Op: api.Op{Kind: api.Sum, At: l(0)}, Args: l(of)} }

// giving is a graph.
func giving(outs []int, nodes ...api.Node) api.Graph { return api.Graph{Nodes: nodes, Outs: outs} }

// M3: parameters are there from the beginning on, used or not.
func TestM3Parameters(t *testing.T) {
	wantLives(t, giving(nil))
	wantLives(t, giving(nil, par(0)), life(0, 1, 1))
	// Nothing uses them: each is needed up to and with its own time.
	wantLives(t, giving(nil, par(0, 2), par(1, 3), par(2)), life(0, 1, 2), life(0, 2, 3), life(0, 3, 1))
	wantLives(t, giving(nil, par(0, 2), par(1, 3), fill(5)), life(0, 1, 2), life(0, 2, 3), life(2, 3, 5))
	// Used by what stands just behind them, and far behind them.
	wantLives(t, giving(nil, par(0, 2), par(1, 3), sum(1)), life(0, 1, 2), life(0, 3, 3), life(2, 3, 1))
	wantLives(t, giving(nil, par(0, 2), par(1, 3), sum(1), fill(), sum(0)), life(0, 5, 2), life(0, 3, 3), life(2, 3, 1), life(3, 4, 1), life(4, 5, 1))
	// Given.
	wantLives(t, giving(l(1), par(0, 2), par(1, 3), fill()), life(0, 1, 2), life(0, 4, 3), life(2, 3, 1))
}

// M3: nodes that are used by several, by one, by none, by one twice.
func TestM3Used(t *testing.T) {
	wantLives(t, giving(nil, fill(), fill(), fill()), life(0, 1, 1), life(1, 2, 1), life(2, 3, 1))
	wantLives(t, giving(nil, fill(2), node(api.Add, 0, 0), fill()), life(0, 2, 2), life(1, 2, 2), life(2, 3, 1))
	wantLives(t, giving(nil, fill(2), fill(2), node(api.Add, 0, 1), node(api.Sub, 2, 0), node(api.Mul, 3, 3)),
		life(0, 4, 2), life(1, 3, 2), life(2, 4, 2), life(3, 5, 2), life(4, 5, 2))
	wantLives(t, giving(nil, fill(), fill(), fill(), node(api.Pick, 0, 0, 1), fill(), node(api.Add, 1, 0)),
		life(0, 6, 1), life(1, 6, 1), life(2, 3, 1), life(3, 4, 1), life(4, 5, 1), life(5, 6, 1))
	// Used by two that stand side by side: the later one counts.
	wantLives(t, giving(nil, fill(), node(api.Add, 0, 0), node(api.Mul, 0, 0)), life(0, 3, 1), life(1, 2, 1), life(2, 3, 1))
}

// M3: what the graph gives is needed up to and with the time that is the number of nodes.
func TestM3Given(t *testing.T) {
	nodes := []api.Node{par(0, 2), fill(2), node(api.Add, 0, 1), sum(2)}
	plain := lives(life(0, 3, 2), life(1, 3, 2), life(2, 4, 2), life(3, 4, 1))
	wantLives(t, giving(nil, nodes...), plain...)
	for _, outs := range [][]int{l(0), l(1), l(2), l(3), l(3, 3), l(0, 0, 0), l(0, 3), l(3, 0), l(2, 1, 2), l(0, 1, 2, 3), slices.Repeat(l(1), 9000)} {
		want := slices.Clone(plain)
		for _, k := range outs {
			want[k].To = 5
		}
		wantLives(t, giving(outs, nodes...), want...)
	}
	wantLives(t, giving(l(0), fill()), life(0, 2, 1))
}

// M3: words are the entries.
func TestM3Words(t *testing.T) {
	for _, c := range []struct {
		dims []int
		want int
	}{{nil, 1}, {l(0), 0}, {l(1), 1}, {l(7), 7}, {l(2, 3), 6}, {l(4096, 0, 5), 0}, {l(4096, 16), 65536}, {l(4096), 4096}, {l(2, 1, 2, 1, 2, 3), 24}} {
		wantLives(t, giving(nil, par(0, c.dims...)), life(0, 1, c.want))
		wantLives(t, giving(l(0), fill(c.dims...)), life(0, 2, c.want))
		wantLives(t, giving(nil, par(0, c.dims...), node(api.Mul, 0, 0)), life(0, 2, c.want), life(1, 2, c.want))
	}
	// Of what operations make of others.
	turn := api.Node{Op: api.Op{Kind: api.Turn, At: l(1, 0)}, Args: l(0)}
	dot := api.Node{Op: api.Op{Kind: api.Dot, At: l(1), Step: l(0)}, Args: l(0, 1)}
	join := api.Node{Op: api.Op{Kind: api.Join, At: l(0)}, Args: l(0, 0, 0)}
	wantLives(t, giving(nil, par(0, 2, 3), turn, dot, join, sum(0)), life(0, 5, 6), life(1, 3, 6), life(2, 3, 4), life(3, 4, 18), life(4, 5, 3))
}

// M3: the graph of a text.
func TestM3Text(t *testing.T) {
	p, _ := text.Read("fn f(x: [2]) = let y = x * x in sum{0}(y) - 1;")
	g, err := graph.Build(p, "f", [][]int{l(2)})
	if err != api.OK {
		t.Fatal(err)
	}
	wantLives(t, g, life(0, 2, 2), life(1, 3, 2), life(2, 5, 1), life(3, 5, 1), life(4, 6, 1))
	at, words, _ := room.Lay(lives(life(0, 2, 2), life(1, 3, 2), life(2, 5, 1), life(3, 5, 1), life(4, 6, 1)))
	if !slices.Equal(at, l(0, 2, 0, 1, 2)) || words != 4 {
		t.Errorf("%v and %d come", at, words)
	}
}

// M3: what is wrong with a graph.
func TestM3Wrong(t *testing.T) {
	for _, c := range []struct {
		g    api.Graph
		want api.Errno
	}{
		{giving(nil, make([]api.Node, 4097)...), api.ErrMuch},
		{giving(nil, fill(), node(api.Add, 0, 1)), api.ErrOrder},
		{giving(nil, fill(), node(api.Add, -1, 0)), api.ErrOrder},
		{giving(nil, fill(), par(1)), api.ErrForm},
		{giving(nil, par(1)), api.ErrForm},
		{giving(nil, par(0), api.Node{Op: par(1).Op, Args: l(0)}), api.ErrMany},
		{giving(nil, par(0, 1, 1, 1, 1, 1, 1, 1)), api.ErrRank},
		{giving(nil, par(0, 4097)), api.ErrRange},
		{giving(nil, par(0, 4096, 17)), api.ErrMuch},
		{giving(nil, node(0)), api.ErrKind},
		{giving(nil, fill(2), fill(3), node(api.Add, 0, 1)), api.ErrShape},
		{giving(nil, fill(2), node(api.Add, 0)), api.ErrMany},
		{giving(l(0)), api.ErrRange},
		{giving(l(0, 1), fill()), api.ErrRange},
		{giving(l(-1), fill()), api.ErrRange},
		{giving(l(most), fill(), node(api.Add, 0, 1)), api.ErrOrder},
	} {
		wantNoLives(t, c.g, c.want)
	}
}

// M3: as many nodes as there may be; nothing is wrong with their lives.
func TestM3MostNodes(t *testing.T) {
	nodes := []api.Node{par(0, 16, 4096)}
	want := lives(life(0, 2, 65536))
	for k := 1; k < 4096; k++ {
		nodes = append(nodes, node(api.Add, k-1, k-1))
		want = append(want, life(k, k+2, 65536))
	}
	want[4095].To = 4096
	wantLives(t, giving(nil, nodes...), want...)
	want[4095].To = 4097
	wantLives(t, giving(l(4095), nodes...), want...)
	if load, err := room.Load(want); load != 2*65536 || err != api.OK {
		t.Errorf("%d and %d come", load, err)
	}
	at, words, err := room.Lay(want)
	if words != 2*65536 || err != api.OK || slices.ContainsFunc(upTo(4096), func(k int) bool { return at[k] != k%2*65536 }) {
		t.Errorf("%s, %d and %d come", show(at), words, err)
	}
}

// livesByHand are those of a right graph of so many words each, by the words of M3.
func livesByHand(g api.Graph, params int, words []int) []api.Life {
	var out []api.Life
	for i := range g.Nodes {
		from, last := i, i
		if i < params {
			from = 0
		}
		for k, other := range g.Nodes {
			if slices.Contains(other.Args, i) {
				last = max(last, k)
			}
		}
		if slices.Contains(g.Outs, i) {
			last = len(g.Nodes)
		}
		out = append(out, life(from, last+1, words[i]))
	}
	return out
}

// graph is a right one, of which all nodes have one dimension; and how many parameters it has.
func (d dice) graph() (api.Graph, int) {
	g, params := api.Graph{}, d.IntN(4)
	size := d.IntN(5)
	for k := range params + d.IntN(10) {
		next := fill(size)
		if k > 0 && d.IntN(4) > 0 {
			next = node(d.of(api.Add, api.Sub, api.Mul), d.IntN(k), d.IntN(k))
		}
		if k < params {
			next = par(k, size)
		}
		g.Nodes = append(g.Nodes, next)
	}
	if len(g.Nodes) > 0 {
		for range d.IntN(4) {
			g.Outs = append(g.Outs, d.IntN(len(g.Nodes)))
		}
	}
	return g, params
}

// M3: dice-thrown graphs, against the words.
func TestM3Thrown(t *testing.T) {
	d := thrown(3)
	for range 4000 {
		g, params := d.graph()
		dims, err := graph.Dims(g)
		if err != api.OK {
			t.Fatalf("%v is wrong: %d", g, err)
		}
		words := make([]int, len(dims))
		for k := range dims {
			words[k] = dims[k][0]
		}
		wantLives(t, g, livesByHand(g, params, words)...)
	}
}
