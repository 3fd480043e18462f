package split_test

import (
	"math"
	"math/rand/v2"
	"slices"
	"testing"

	"adjoint/api"
	"adjoint/array"
	"adjoint/graph"
	"adjoint/split"
)

// dice are thrown the same way each time.
type dice struct{ *rand.Rand }

func thrown(seed uint64) dice { return dice{rand.New(rand.NewPCG(15, seed))} }

func (d dice) of(all ...int) int { return all[d.IntN(len(all))] }

// word is any number: most say rows, some are as great as can be.
func (d dice) word() int64 {
	switch d.IntN(6) {
	case 0:
		return int64(d.Uint64())
	case 1:
		return []int64{math.MinInt64, math.MinInt64 + 1, -1 << 32, -1, 0, 1, 1 << 32, -3 << 61, math.MaxInt64}[d.IntN(9)]
	}
	return d.Int64N(7) - 2
}

// arrays are arrays with these dimensions.
func (d dice) arrays(all [][]int) []api.Array {
	var out []api.Array
	for _, dims := range all {
		a := of(slices.Clone(dims))
		for range size(dims) {
			a.Data = append(a.Data, d.word())
		}
		out = append(out, a)
	}
	return out
}

// dim is a dimension: most of them can be cut, among so many.
func (d dice) dim(many int) int {
	if d.IntN(40) == 0 {
		return 0
	}
	return d.of(many, many, many, 2*many, 1, 2, 3)
}

// shape is a list of few dimensions.
func (d dice) shape(many int) []int {
	dims := make([]int, d.of(0, 1, 1, 2, 2, 2, 3))
	for k := range dims {
		dims[k] = d.dim(many)
	}
	return dims
}

// some are some of the numbers from 0 on below n, in their order.
func (d dice) some(n int) []int {
	var out []int
	for k := range n {
		if d.IntN(3) == 0 {
			out = append(out, k)
		}
	}
	return out
}

// op is an operation of this kind that may fit arguments of which the first two have these dimensions.
func (d dice) op(kind, many int, a, b []int) api.Op {
	op := bare(kind)
	switch kind {
	case api.Fill:
		op = fill(d.Int64N(7)-3, d.shape(many)...)
	case api.Sum, api.Flip:
		op.At = d.some(len(a))
	case api.Turn:
		op.At = d.Perm(len(a))
	case api.Reform:
		op.Dims = slices.Clone(a)
		d.Shuffle(len(a), func(i, k int) { op.Dims[i], op.Dims[k] = op.Dims[k], op.Dims[i] })
		if d.IntN(3) == 0 {
			op.Dims = slices.Insert(op.Dims, d.IntN(len(a)+1), 1)
		}
	case api.Spread:
		op.Dims, op.At = d.spread(many, a)
	case api.Cut:
		op.Lo, op.Hi, op.Step = d.cut(a)
	case api.Pad:
		for range a {
			op.Lo, op.Hi, op.Step = append(op.Lo, d.of(0, 0, 0, 1)), append(op.Hi, d.of(0, 0, 0, 2)), append(op.Step, d.of(1, 1, 1, 1, 2))
		}
	case api.Dot:
		d.pairs(&op, a, b)
	case api.Join:
		op.At = l(d.IntN(len(a) + 1))
	case api.Put:
		op.Dims = l(d.dim(many))
	}
	return op
}

// cut is a part of each dimension, most often all of it.
func (d dice) cut(dims []int) (lo, hi, step []int) {
	for _, dim := range dims {
		from, to, far := 0, dim, 1
		if d.IntN(4) == 0 {
			from = d.IntN(dim + 1)
		}
		if d.IntN(4) == 0 {
			to = from + d.IntN(dim-from+1)
		}
		if d.IntN(6) == 0 {
			far = 2
		}
		lo, hi, step = append(lo, from), append(hi, to), append(step, far)
	}
	return lo, hi, step
}

// spread are dimensions with some new ones, and which are the old ones.
func (d dice) spread(many int, from []int) (dims, at []int) {
	for _, dim := range from {
		if d.IntN(4) == 0 {
			dims = append(dims, d.dim(many))
		}
		at, dims = append(at, len(dims)), append(dims, dim)
	}
	if d.IntN(3) == 0 {
		dims = append(dims, d.dim(many))
	}
	return dims, at
}

// pairs name dimensions of two arrays that are alike, in any order.
func (d dice) pairs(op *api.Op, a, b []int) {
	left := d.Perm(len(b))
	for _, k := range d.Perm(len(a)) {
		for _, other := range left {
			if a[k] != b[other] || d.IntN(3) == 0 {
				continue
			}
			if d.IntN(2) == 0 {
				op.At, op.Step = append(op.At, k), append(op.Step, other)
			} else {
				op.Lo, op.Hi = append(op.Lo, k), append(op.Hi, other)
			}
			left = slices.DeleteFunc(left, func(n int) bool { return n == other })
			break
		}
	}
}

// kinds are those of A3's table.
func kinds() []int {
	return l(api.Fill, api.Add, api.Sub, api.Mul, api.Max, api.Less, api.Pick, api.Spread, api.Sum, api.Turn, api.Reform, api.Cut, api.Pad, api.Flip, api.Dot, api.Join, api.Take, api.Put)
}

// takes is how many arguments a kind takes.
func (d dice) takes(kind int) int {
	switch kind {
	case api.Fill:
		return 0
	case api.Spread, api.Sum, api.Turn, api.Reform, api.Cut, api.Pad, api.Flip:
		return 1
	case api.Pick:
		return 3
	case api.Join:
		return 1 + d.IntN(3)
	}
	return 2
}

// node is one that can stand behind nodes of these dimensions, and makes not too many entries.
func (d dice) node(many int, dims [][]int) api.Node {
	for range 200 {
		kind := d.of(append(kinds(), api.Dot, api.Dot, api.Take, api.Put, api.Join)...)
		takes := d.takes(kind)
		if takes > 0 && len(dims) == 0 {
			continue
		}
		var args []int
		var of [][]int
		for len(args) < takes {
			at := d.IntN(len(dims))
			// Most kinds want arguments that are alike.
			if len(of) > 0 && d.IntN(2) == 0 {
				for !slices.Equal(dims[at], of[0]) {
					at = d.IntN(len(dims))
				}
			}
			args, of = append(args, at), append(of, dims[at])
		}
		two := slices.Concat(of, [][]int{nil, nil})
		op := d.op(kind, many, two[0], two[1])
		if made, err := array.Dims(op, of); err == api.OK && size(made) <= 200*many {
			return on(op, args...)
		}
	}
	return on(fill(d.Int64N(7)-3, d.shape(many)...))
}

// graph is a right one, whose dimensions can be cut among so many now and then.
func (d dice) graph(many, params, nodes int) api.Graph {
	g := api.Graph{}
	home := d.shape(many)
	for k := range params {
		dims := home
		if d.IntN(2) == 0 {
			dims = d.shape(many)
		}
		g.Nodes = append(g.Nodes, par(k, dims...))
	}
	for range nodes {
		dims, _ := graph.Dims(g)
		g.Nodes = append(g.Nodes, d.node(many, dims))
	}
	for len(g.Nodes) > 0 && (d.IntN(3) > 0 || len(g.Outs) == 0) {
		g.Outs = append(g.Outs, len(g.Nodes)-1-d.IntN(min(6, len(g.Nodes))))
	}
	return g
}

// how is one of the ways in which a graph's parameters can lie.
func (d dice) how(g api.Graph, many int) []int {
	var how []int
	for _, dims := range paramDims(g) {
		ways := l(every)
		for k, dim := range dims {
			if dim%many == 0 {
				ways = append(ways, k, k)
			}
		}
		how = append(how, d.of(ways...))
	}
	return how
}

// X1, X3 to X5: graphs of all sorts are laid out, worked out and counted as the words say, by each row of the table.
func TestX3ToX5ByTheirWords(t *testing.T) {
	d := thrown(2)
	taken, told := map[string]int{}, map[int]int{}
	for k := range 20000 {
		many := d.of(1, 2, 2, 2, 3, 4)
		if k%20 == 0 {
			many = d.of(5, 7, crowd)
		}
		g := d.graph(many, d.of(0, 1, 2, 3, 4, 5), d.IntN(12))
		b := wantByHand(t, d, g, many, d.how(g, many))
		if t.Failed() {
			return
		}
		for row, times := range b.taken {
			taken[row] += times
		}
		for _, s := range b.Steps {
			told[s.Do]++
		}
	}
	for _, row := range rows() {
		if taken[row] < 100 {
			t.Errorf("row %q was taken %d times", row, taken[row])
		}
	}
	for _, do := range l(api.StepLocal, api.StepSum, api.StepGather, api.StepOwn, api.StepSwap) {
		if told[do] < 500 {
			t.Errorf("step %d came %d times", do, told[do])
		}
	}
}

// X4: what the machines have, put together along what it is cut, is what the graph gives.
func TestX4PutTogether(t *testing.T) {
	d := thrown(3)
	for range 3000 {
		many := d.of(1, 2, 3, 4)
		g := d.graph(many, 1+d.IntN(4), 1+d.IntN(12))
		how, args := d.how(g, many), d.arrays(paramDims(g))
		p, _ := split.Split(g, many, how)
		has, err := split.Run(g, many, how, args)
		if err != api.OK || len(has) != len(p.Steps) {
			t.Fatalf("%s: %d, and %d of %d steps come", show(g), err, len(has), len(p.Steps))
		}
		want, _ := graph.Eval(g, args)
		for k, at := range p.Outs {
			all := has[at]
			if p.How[k] == every {
				for _, a := range all {
					if !sameArrays(arrays(a), want[k:k+1]) {
						t.Fatalf("%s lying %v with %v: %v comes, not %v", show(g), how, args, a, want[k])
					}
				}
				continue
			}
			if a := do(t, join(p.How[k]), all, free(many)); !sameArrays(arrays(a), want[k:k+1]) {
				t.Fatalf("%s lying %v with %v: %v comes, put together, not %v", show(g), how, args, a, want[k])
			}
		}
	}
}
