package core_test

import (
	"slices"
	"testing"

	"adjoint/api"
	"adjoint/array"
	"adjoint/core"
	"adjoint/graph"
)

// par is a parameter.
func par(k int, dims ...int) api.Node {
	return api.Node{Op: api.Op{Kind: api.Param, Dims: dims, At: l(k)}}
}

// on is an operation on nodes.
func on(op api.Op, args ...int) api.Node { return api.Node{Op: op, Args: args} }

// node is an operation without fields, on nodes.
func node(kind int, args ...int) api.Node { return on(api.Op{Kind: kind}, args...) }

// fill is a number everywhere.
func fill(n int64, dims ...int) api.Node {
	return on(api.Op{Kind: api.Fill, Value: n, Dims: dims})
}

// giving is a graph.
func giving(outs []int, nodes ...api.Node) api.Graph { return api.Graph{Nodes: nodes, Outs: outs} }

// last is a graph that gives its last node.
func last(nodes ...api.Node) api.Graph { return giving(l(len(nodes)-1), nodes...) }

// spread, sum, turn, reform, slice, pad, flip, dot, join and put are operations with their fields.
func spread(dims []int, at ...int) api.Op { return api.Op{Kind: api.Spread, Dims: dims, At: at} }
func sum(at ...int) api.Op                { return api.Op{Kind: api.Sum, At: at} }
func turn(at ...int) api.Op               { return api.Op{Kind: api.Turn, At: at} }
func reform(dims ...int) api.Op           { return api.Op{Kind: api.Reform, Dims: dims} }
func slice(lo, hi, step []int) api.Op     { return api.Op{Kind: api.Cut, Lo: lo, Hi: hi, Step: step} }
func pad(lo, hi, step []int) api.Op       { return api.Op{Kind: api.Pad, Lo: lo, Hi: hi, Step: step} }
func flip(at ...int) api.Op               { return api.Op{Kind: api.Flip, At: at} }
func dot(at, step, lo, hi []int) api.Op {
	return api.Op{Kind: api.Dot, At: at, Step: step, Lo: lo, Hi: hi}
}
func join(at int) api.Op  { return api.Op{Kind: api.Join, At: l(at)} }
func put(rows int) api.Op { return api.Op{Kind: api.Put, Dims: l(rows)} }

// size is how many entries there are.
func size(dims []int) int {
	many := 1
	for _, dim := range dims {
		many *= dim
	}
	return many
}

// wantNoImage: Compile tells this error, and nothing else.
func wantNoImage(t *testing.T, g api.Graph, pad int, want api.Errno) {
	t.Helper()
	im, err := core.Compile(g, pad)
	if err != want || im.Code.Pad != 0 || im.Code.Memory != 0 || len(im.Code.Mover)+len(im.Code.Maker)+len(im.Ins)+len(im.Outs) > 0 {
		t.Errorf("%s with a pad of %d: %s, %d comes, not %d", show(g), pad, show(im), err, want)
	}
}

// wantImages: a graph has images with pads of several sizes.
func wantImages(t *testing.T, g api.Graph) {
	t.Helper()
	for _, pad := range l(64, 65, 99, 4096) {
		wantImage(t, g, pad)
	}
}

// wantImage: a graph has an image, which is as C5 says.
func wantImage(t *testing.T, g api.Graph, pad int) api.Image {
	t.Helper()
	im, err := core.Compile(g, pad)
	if err != api.OK {
		t.Fatalf("%s with a pad of %d: %d comes", show(g), pad, err)
	}
	if im.Code.Pad != pad || wrongByHand(im.Code) != api.OK || core.Wrong(im.Code) != api.OK {
		t.Fatalf("%s with a pad of %d: %s is not right", show(g), pad, show(im))
	}
	if race, err := core.Races(im.Code); err != api.OK || race.Any {
		t.Fatalf("%s with a pad of %d: %s has a race: %v", show(g), pad, show(im), race)
	}
	wantPlaces(t, g, im)
	d := thrown(7)
	for _, picks := range [][]int{nil, l(1), l(0, 1), l(1, 1, 0, 1, 0, 0, 0), d.picks()} {
		wantWorth(t, g, im, d, picks)
	}
	return im
}

// wantPlaces: the places of an image are as large as what lies there, within memory, and no two parameters share a word.
func wantPlaces(t *testing.T, g api.Graph, im api.Image) {
	t.Helper()
	dims, _ := graph.Dims(g)
	if len(im.Ins) != graph.Params(g) || len(im.Outs) != len(g.Outs) {
		t.Fatalf("%s: %d and %d places come", show(g), len(im.Ins), len(im.Outs))
	}
	fits := func(p api.Place, node int) {
		if p.Words != size(dims[node]) || p.At < 0 || p.At+p.Words > im.Code.Memory {
			t.Fatalf("%s: %v is the place of node %d, of %d words", show(g), p, node, im.Code.Memory)
		}
	}
	taken := map[int]int{}
	for k, p := range im.Ins {
		fits(p, k)
		for i := range p.Words {
			if taken[p.At+i]++; taken[p.At+i] > 1 {
				t.Fatalf("%s: parameter %d shares a word with another one: %v", show(g), k, im.Ins)
			}
		}
	}
	for k, p := range im.Outs {
		fits(p, g.Outs[k])
	}
}

// wantWorth: the image gives what the graph gives, of dice-thrown arguments, whatever else lies in memory.
func wantWorth(t *testing.T, g api.Graph, im api.Image, d dice, picks []int) {
	t.Helper()
	memory := d.words(im.Code.Memory)
	var args []api.Array
	for k, p := range im.Ins {
		args = append(args, api.Array{Dims: g.Nodes[k].Op.Dims, Data: d.words(p.Words)})
		copy(memory[p.At:], args[k].Data)
	}
	want, wrong := graph.Eval(g, args)
	got, err := core.Run(im.Code, memory, picks)
	if wrong != api.OK || err != api.OK {
		t.Fatalf("%s with %v: %d, %d comes", show(g), picks, wrong, err)
	}
	for k, p := range im.Outs {
		if given := got[p.At:][:p.Words]; !slices.Equal(given, want[k].Data) {
			t.Fatalf("%s of %s with %v: %s comes, not %s", show(g), show(args), picks, show(given), show(want[k].Data))
		}
	}
}

// weightByHand is what C5 weighs: the tidy graph, and the entries of its parameters.
func weightByHand(g api.Graph) int {
	tidy, _ := graph.Tidy(g)
	sum, _ := graph.Weight(tidy)
	for _, n := range tidy.Nodes[:graph.Params(tidy)] {
		sum += size(n.Op.Dims)
	}
	return sum
}

// kinds are all kinds of operations that an image can have.
func kinds() []int {
	return l(api.Fill, api.Add, api.Sub, api.Mul, api.Max, api.Less, api.Pick, api.Spread, api.Sum, api.Turn, api.Reform, api.Cut, api.Pad, api.Flip, api.Dot, api.Join)
}

// list is one of so many numbers, each one of these.
func (d dice) list(many int, of ...int) []int {
	out := make([]int, many)
	for k := range out {
		out[k] = d.of(of...)
	}
	return out
}

// some are some of the numbers from 0 on, below many, in their order.
func (d dice) some(many int) []int {
	var out []int
	for k := range many {
		if d.IntN(2) == 0 {
			out = append(out, k)
		}
	}
	return out
}

// op is an operation that may fit arguments of these dimensions.
func (d dice) op(kind int, a, b []int) api.Op {
	op := api.Op{Kind: kind, Value: d.word()}
	switch kind {
	case api.Fill:
		op.Dims = d.list(d.IntN(7), 0, 1, 2, 2, 3, 5)
	case api.Spread:
		op.Dims = slices.Clone(a)
		for range d.IntN(3) {
			op.Dims = slices.Insert(op.Dims, d.IntN(len(op.Dims)+1), d.of(0, 1, 2, 3, 30))
		}
		op.At = d.some(len(op.Dims))
	case api.Sum, api.Flip:
		op.At = d.some(len(a))
	case api.Turn:
		op.At = d.Perm(len(a))
	case api.Reform:
		op.Dims = append(slices.Clone(a), d.list(d.IntN(2), 1)...)
		d.Shuffle(len(op.Dims), func(i, k int) { op.Dims[i], op.Dims[k] = op.Dims[k], op.Dims[i] })
	case api.Cut:
		op.Lo, op.Hi, op.Step = d.list(len(a), 0, 0, 1), slices.Clone(a), d.list(len(a), 1, 1, 2, 3, 4096)
		for k := range op.Hi {
			op.Hi[k] -= d.of(0, 0, 1)
		}
	case api.Pad:
		op.Lo, op.Hi, op.Step = d.list(len(a), 0, 0, 1, 2), d.list(len(a), 0, 0, 1), d.list(len(a), 1, 1, 2, 3)
		for k, dim := range a {
			if dim < 2 && d.IntN(2) == 0 {
				op.Step[k] = 4096
			}
		}
	case api.Dot:
		op.At, op.Step = d.Perm(len(a)), d.Perm(len(b))
		both := min(len(a), len(b))
		together := d.IntN(both + 1)
		op.Lo, op.Hi = op.At[:together], op.Step[:together]
		summed := d.IntN(both - together + 1)
		op.At, op.Step = op.At[together:together+summed], op.Step[together:together+summed]
	case api.Join:
		op.At = l(d.IntN(max(len(a), 1)))
	}
	return op
}

// graph is a right one, whose nodes are of these kinds.
func (d dice) graph(longest int, kinds ...int) api.Graph {
	var g api.Graph
	var dims [][]int
	for k := range d.IntN(4) {
		dims = append(dims, d.list(d.IntN(5), 0, 1, 2, 2, 3, 3, 13, 23))
		if d.IntN(3) == 0 {
			dims[k] = slices.Clone(dims[0])
		}
		g.Nodes = append(g.Nodes, par(k, dims[k]...))
	}
	if len(g.Nodes) == 0 {
		dims, g.Nodes = append(dims, l(2, 11)), append(g.Nodes, fill(5, 2, 11))
	}
	takes := map[int]int{api.Fill: 0, api.Add: 2, api.Sub: 2, api.Mul: 2, api.Max: 2, api.Less: 2, api.Pick: 3, api.Dot: 2, api.Join: 2, api.Take: 2, api.Put: 2}
	for tries := 0; len(g.Nodes) < longest && tries < 300; tries++ {
		kind := kinds[d.IntN(len(kinds))]
		args := l(d.IntN(len(dims)), d.IntN(len(dims)), d.IntN(len(dims)))
		op := d.op(kind, dims[args[0]], dims[args[1]])
		many, ok := takes[kind]
		if !ok {
			many = 1
		}
		args = args[:many]
		var of [][]int
		for _, at := range args {
			of = append(of, dims[at])
		}
		if made, err := array.Dims(op, of); err == api.OK && size(made) <= 1500 {
			dims = append(dims, made)
			g.Nodes = append(g.Nodes, on(op, args...))
		}
	}
	for range d.IntN(4) {
		g.Outs = append(g.Outs, d.IntN(len(g.Nodes)))
	}
	g.Outs = append(g.Outs, len(g.Nodes)-1)
	return g
}
