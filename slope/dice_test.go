package slope_test

import (
	"math"
	"math/rand/v2"
	"slices"
	"testing"

	"adjoint/api"
	"adjoint/array"
	"adjoint/graph"
)

// dice are thrown the same way each time.
type dice struct{ *rand.Rand }

func (d dice) of(all ...int) int { return all[d.IntN(len(all))] }

// shape is a list of few dimensions; now and then one is 0.
func (d dice) shape() []int {
	dims := make([]int, d.of(0, 0, 1, 1, 1, 2, 2, 3))
	for k := range dims {
		dims[k] = d.of(1, 2, 2, 2, 2, 3, 3)
		if d.IntN(30) == 0 {
			dims[k] = 0
		}
	}
	return dims
}

// some are some of the numbers from 0 on below n, in their order.
func (d dice) some(n int) []int {
	var out []int
	for k := range n {
		if d.IntN(2) == 0 {
			out = append(out, k)
		}
	}
	return out
}

// op is an operation of this kind that may fit arguments of which the first two have these dimensions.
func (d dice) op(kind int, a, b []int) api.Op {
	op := api.Op{Kind: kind}
	switch kind {
	case api.Fill:
		op.Dims, op.Value = d.shape(), d.Int64N(7)-3
	case api.Sum, api.Flip:
		op.At = d.some(len(a))
	case api.Turn:
		op.At = d.Perm(len(a))
	case api.Reform:
		op.Dims = d.reformed(a)
	case api.Spread:
		op.Dims, op.At = d.spread(a)
	case api.Cut:
		for _, dim := range a {
			lo := d.IntN(dim + 1)
			op.Lo, op.Hi, op.Step = append(op.Lo, lo), append(op.Hi, lo+d.IntN(dim-lo+1)), append(op.Step, d.of(1, 1, 2, 3))
			if d.IntN(2) == 0 {
				op.Lo[len(op.Lo)-1], op.Hi[len(op.Hi)-1] = 0, dim
			}
		}
	case api.Pad:
		for range a {
			op.Lo, op.Hi, op.Step = append(op.Lo, d.of(0, 0, 1, 2)), append(op.Hi, d.of(0, 0, 1, 2)), append(op.Step, d.of(1, 1, 2, 3))
		}
	case api.Dot:
		d.pairs(&op, a, b)
	case api.Join:
		op.At = l(d.IntN(len(a) + 1))
	case api.Put:
		op.Dims = l(d.of(1, 2, 3, 3))
	}
	return op
}

// reformed are other dimensions of as many entries.
func (d dice) reformed(dims []int) []int {
	out := slices.Clone(dims)
	d.Shuffle(len(out), func(i, k int) { out[i], out[k] = out[k], out[i] })
	if d.IntN(3) == 0 {
		out = slices.Insert(out, d.IntN(len(out)+1), 1)
	}
	if d.IntN(3) == 0 {
		out = l(size(dims))
	}
	return out
}

// spread are dimensions with some new ones, and which are the old ones.
func (d dice) spread(from []int) (dims, at []int) {
	for _, dim := range from {
		for d.IntN(3) == 0 {
			dims = append(dims, d.of(1, 2, 2, 3))
		}
		at, dims = append(at, len(dims)), append(dims, dim)
	}
	for d.IntN(3) == 0 {
		dims = append(dims, d.of(0, 2, 2, 3))
	}
	return dims, at
}

// pairs name dimensions of two arrays that are alike, in any order.
func (d dice) pairs(op *api.Op, a, b []int) {
	free := d.Perm(len(b))
	for _, k := range d.Perm(len(a)) {
		for _, other := range free {
			if a[k] != b[other] || d.IntN(4) == 0 {
				continue
			}
			if d.IntN(2) == 0 {
				op.At, op.Step = append(op.At, k), append(op.Step, other)
			} else {
				op.Lo, op.Hi = append(op.Lo, k), append(op.Hi, other)
			}
			free = slices.DeleteFunc(free, func(n int) bool { return n == other })
			break
		}
	}
}

// allKinds are those of A3's table.
var allKinds = []int{api.Fill, api.Add, api.Sub, api.Mul, api.Max, api.Less, api.Pick, api.Spread, api.Sum, api.Turn, api.Reform, api.Cut, api.Pad, api.Flip, api.Dot, api.Join, api.Take, api.Put}

// takes is how many arguments a kind takes.
func (d dice) takes(kind int) int {
	switch kind {
	case api.Fill:
		return 0
	case api.Spread, api.Sum, api.Turn, api.Reform, api.Cut, api.Pad, api.Flip:
		return 1
	case api.Pick:
		return 3
	case api.Join:
		return 1 + d.IntN(3)
	}
	return 2
}

// node is one of these kinds that can stand behind nodes of these dimensions, and makes few entries.
func (d dice) node(dims [][]int, kinds []int) api.Node {
	for range 200 {
		kind := kinds[d.IntN(len(kinds))]
		many := d.takes(kind)
		if many > 0 && len(dims) == 0 {
			continue
		}
		var args []int
		var of [][]int
		for len(args) < many {
			at := len(dims) - 1 - d.IntN(min(len(dims), 5))
			if d.IntN(4) == 0 {
				at = d.IntN(len(dims))
			}
			// Most kinds want arguments that are alike.
			like := slices.IndexFunc(dims, func(other []int) bool { return len(of) > 0 && slices.Equal(other, of[0]) })
			if like >= 0 && d.IntN(2) == 0 {
				at = like
			}
			args, of = append(args, at), append(of, dims[at])
		}
		first := slices.Concat(of, [][]int{nil, nil})
		op := d.op(kind, first[0], first[1])
		if made, err := array.Dims(op, of); err == api.OK && size(made) <= 40 {
			return api.Node{Op: op, Args: args}
		}
	}
	return fill(d.Int64N(7)-3, d.shape()...)
}

// graph is a right one of these kinds alone.
func (d dice) graph(params, nodes int, kinds ...int) api.Graph {
	g := api.Graph{}
	home := d.shape()
	for k := range params {
		dims := home
		if d.IntN(2) == 0 {
			dims = d.shape()
		}
		g.Nodes = append(g.Nodes, par(k, dims...))
	}
	for range nodes {
		dims, _ := graph.Dims(g)
		g.Nodes = append(g.Nodes, d.node(dims, kinds))
	}
	for len(g.Nodes) > 0 && (d.IntN(3) > 0 || len(g.Outs) == 0) {
		g.Outs = append(g.Outs, len(g.Nodes)-1-d.IntN(min(4, len(g.Nodes))))
	}
	return g
}

// arrays are arrays with these dimensions: numbers that may say rows, or any others.
func (d dice) arrays(all [][]int) []api.Array {
	out := arrays()
	for _, dims := range all {
		out = append(out, entries(noughts(dims), func(int) int64 {
			if d.IntN(3) > 0 {
				return d.Int64N(6) - 2
			}
			return int64(d.Uint64()) >> d.IntN(64)
		}))
	}
	return out
}

// Graphs of all sorts are what the words of D2 to D5 say.
func TestD2ToD5ByTheirWords(t *testing.T) {
	d := dice{rand.New(rand.NewPCG(7, 21))}
	kinds, moving := map[int]int{}, 0
	for range 4000 {
		g := d.graph(d.IntN(4), d.IntN(12), allKinds...)
		args, slopes, told := d.arrays(paramDims(g)), d.arrays(paramDims(g)), d.arrays(outDims(t, g))
		byHand(t, g, args, slopes, told)
		tidy, _ := graph.Tidy(g)
		for _, node := range tidy.Nodes {
			kinds[node.Op.Kind]++
		}
		for _, a := range toldByHand(t, g, args, told) {
			if slices.ContainsFunc(a.Data, func(n int64) bool { return n != 0 }) {
				moving++
			}
		}
	}
	for _, kind := range allKinds {
		if kinds[kind] < 200 {
			t.Errorf("kind %d was thrown %d times", kind, kinds[kind])
		}
	}
	if moving < 2000 {
		t.Errorf("%d parameters were told something", moving)
	}
}

// D4, D5: graphs that are greater, with slopes of all sorts: the inner products are the same, added.
func TestD4InnerProducts(t *testing.T) {
	d := dice{rand.New(rand.NewPCG(8, 21))}
	moving := 0
	for range 400 {
		g := d.graph(1+d.IntN(6), 20+d.IntN(100), allKinds...)
		if parts(g) > 512 {
			continue
		}
		args, told := d.arrays(paramDims(g)), d.arrays(outDims(t, g))
		forward, reverse := ahead(t, g), backward(t, g)
		tells := eval(t, reverse, args, told)
		for range 5 {
			slopes := d.arrays(paramDims(g))
			both := eval(t, forward, args, slopes)
			given, changes := givenByHand(t, g, args, slopes)
			if !sameArrays(both, slices.Concat(given, changes)) {
				t.Fatalf("Forward of %s with %v and the slopes %v: %v comes, not %v and %v", show(g), args, slopes, both, given, changes)
			}
			if got, want := inner(t, tells, slopes), inner(t, told, changes); got != want {
				t.Fatalf("%s with %v, told %v, the slopes %v: %d is told, not %d", show(g), args, told, slopes, got, want)
			} else if got != 0 {
				moving++
			}
		}
	}
	if moving < 500 {
		t.Errorf("%d slopes changed something", moving)
	}
}

// What nothing but sums and products makes has the slope that shows when 2^32 times the parameters' slopes are added to them: 2^32 times it is added to what is given.
func TestD2ShowsBy2To32(t *testing.T) {
	d := dice{rand.New(rand.NewPCG(9, 21))}
	smooth := slices.DeleteFunc(slices.Clone(allKinds), func(kind int) bool {
		return slices.Contains(l(api.Max, api.Less, api.Pick, api.Take, api.Put), kind)
	})
	moving := 0
	for range 2000 {
		g := d.graph(1+d.IntN(3), 1+d.IntN(15), smooth...)
		args, slopes := d.arrays(paramDims(g)), d.arrays(paramDims(g))
		var further []api.Array
		for k, a := range args {
			further = append(further, entries(a, func(i int) int64 { return a.Data[i] + slopes[k].Data[i]<<32 }))
		}
		both, there := eval(t, ahead(t, g), args, slopes), eval(t, g, further)
		for k, a := range both[:len(there)] {
			change := both[len(there)+k]
			want := entries(a, func(i int) int64 { return a.Data[i] + change.Data[i]<<32 })
			if !sameArrays(there[k:k+1], arrays(want)) {
				t.Fatalf("%s with %v and the slopes %v: %v comes 2^32 times further, not %v", show(g), args, slopes, there[k], want)
			}
			if !sameArrays(arrays(a), there[k:k+1]) {
				moving++
			}
		}
	}
	if moving < 1000 {
		t.Errorf("%d of what is given changed", moving)
	}
}

// Numbers as far from 0 as can be, through all kinds.
func TestD2FarNumbers(t *testing.T) {
	d := dice{rand.New(rand.NewPCG(10, 21))}
	far := func(all [][]int) []api.Array {
		out := arrays()
		for _, dims := range all {
			out = append(out, entries(noughts(dims), func(int) int64 {
				return []int64{math.MinInt64, math.MaxInt64, math.MinInt64 + 1, -1, 1 << 62, -1 << 62, 1 << 32, int64(d.Uint64())}[d.IntN(8)]
			}))
		}
		return out
	}
	for range 1000 {
		g := d.graph(1+d.IntN(3), 1+d.IntN(6), allKinds...)
		byHand(t, g, far(paramDims(g)), far(paramDims(g)), far(outDims(t, g)))
	}
}
