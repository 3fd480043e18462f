package alike_test

import (
	"fmt"
	"math"
	"math/rand/v2"
	"slices"
	"testing"

	"adjoint/alike"
	"adjoint/api"
	"adjoint/array"
	"adjoint/graph"
)

// dice are thrown the same way each time.
type dice struct{ *rand.Rand }

func (d dice) of(all ...int) int { return all[d.IntN(len(all))] }

func (d dice) shape() []int {
	return [][]int{nil, nil, l(2), l(2, 2), l(2, 3), l(3, 2), l(0), l(1), l(0, 2), l(2, 0)}[d.IntN(10)]
}

func (d dice) number() int64 {
	return []int64{0, 0, 1, 1, -1, 2, 3, math.MaxInt64, math.MinInt64}[d.IntN(9)]
}

// some are some of the numbers from 0 on below n, each with this chance, in their order.
func (d dice) some(n, percent int) []int {
	var out []int
	for k := range n {
		if d.IntN(100) < percent {
			out = append(out, k)
		}
	}
	return out
}

// op is an operation that may fit a first argument of these dimensions, and the kind of it.
func (d dice) op(kind int, dims []int) api.Op {
	op := api.Op{Kind: kind, Value: d.number()}
	rank := len(dims)
	switch kind {
	case api.Fill:
		op.Dims = d.shape()
	case api.Sum, api.Flip:
		op.At = d.some(rank, 50)
	case api.Turn:
		op.At = d.Perm(rank)
	case api.Reform:
		op.Dims = [][]int{dims, slices.Concat(dims, l(1)), slices.Concat(l(1), dims), d.shape(), slices.Clone(dims)}[d.IntN(5)]
	case api.Spread:
		for _, dim := range dims {
			for d.IntN(3) == 0 && len(op.Dims) < 4 {
				op.Dims = append(op.Dims, d.of(0, 1, 2, 3))
			}
			op.At, op.Dims = append(op.At, len(op.Dims)), append(op.Dims, dim)
		}
		for d.IntN(2) == 0 && len(op.Dims) < 4 {
			op.Dims = append(op.Dims, d.of(0, 2, 2, 3))
		}
	case api.Dot:
		op.At, op.Step = l(rank-1), l(0)
		if d.IntN(8) == 0 {
			op.At, op.Step = l(0), l(rank-1)
		}
		if d.IntN(8) == 0 {
			op.At, op.Step, op.Lo, op.Hi = nil, nil, l(0), l(0)
		}
	case api.Join:
		op.At = l(0)
	}
	return op
}

// graph is one of these kinds alone; many of its nodes have the dimensions home.
func (d dice) graph(params, nodes int, home []int, kinds ...int) api.Graph {
	g := api.Graph{}
	for k := range params {
		dims := home
		if d.IntN(3) == 0 {
			dims = d.shape()
		}
		g.Nodes = append(g.Nodes, api.Node{Op: api.Op{Kind: api.Param, At: l(k), Dims: dims}})
	}
	for len(g.Nodes) < params+nodes {
		dims, _ := graph.Dims(g)
		g.Nodes = append(g.Nodes, d.node(dims, home, kinds))
	}
	for len(g.Nodes) > 0 && (d.IntN(3) > 0 || len(g.Outs) == 0) {
		g.Outs = append(g.Outs, len(g.Nodes)-1-d.IntN(min(3, len(g.Nodes))))
	}
	return g
}

// node is one that can stand behind nodes with these dimensions.
func (d dice) node(dims [][]int, home []int, kinds []int) api.Node {
	for range 40 {
		kind := kinds[d.IntN(len(kinds))]
		many := map[int]int{api.Fill: 0, api.Add: 2, api.Sub: 2, api.Mul: 2, api.Max: 2, api.Less: 2, api.Pick: 3, api.Dot: 2, api.Join: 2, api.Take: 2}
		n, ok := many[kind]
		if !ok {
			n = 1
		}
		if n > 0 && len(dims) == 0 {
			continue
		}
		var args []int
		var of [][]int
		for range n {
			at := len(dims) - 1 - d.IntN(min(len(dims), 4))
			if d.IntN(4) == 0 {
				at = d.IntN(len(dims))
			}
			args, of = append(args, at), append(of, dims[at])
		}
		var first []int
		if n > 0 {
			first = of[0]
		}
		op := d.op(kind, first)
		if kind == api.Fill && d.IntN(2) == 0 {
			op.Dims = home
		}
		if _, err := array.Dims(op, of); err == api.OK {
			return api.Node{Op: op, Args: args}
		}
	}
	return api.Node{Op: api.Op{Kind: api.Fill, Value: d.number(), Dims: home}}
}

// args are arguments of a graph.
func (d dice) args(g api.Graph) []api.Array {
	var out []api.Array
	for _, node := range g.Nodes[:graph.Params(g)] {
		size := 1
		for _, dim := range node.Op.Dims {
			size *= dim
		}
		a := api.Array{Dims: node.Op.Dims, Data: make([]int64, size)}
		for i := range a.Data {
			a.Data[i] = int64(d.Uint64()) >> d.IntN(64)
		}
		out = append(out, a)
	}
	return out
}

// seen is what dice have shown.
type seen struct {
	fitted          map[string]int
	right, much     int
	merged, lighter int
}

// compare holds all four calls against the words of L1 to L5, for all rounds; and what is in one class against what it is worth.
func (s *seen) compare(t *testing.T, d dice, g api.Graph) {
	t.Helper()
	tidy := tidy(t, g)
	b := begin(tidy)
	all := tidy
	all.Outs = upTo(len(tidy.Nodes))
	args := d.args(tidy)
	worth, _ := graph.Eval(all, args)
	first, _ := b.least(tidy.Outs)
	for rounds := range api.MaxRounds + 1 {
		if rounds > 0 {
			b.round(s.fitted)
		}
		if len(b.lines) > api.MaxForms {
			s.much++
			for ; rounds <= api.MaxRounds; rounds++ {
				wantErr(t, g, rounds, api.ErrMuch)
			}
			return
		}
		s.right++
		classes := b.classes()
		wantClasses(t, g, rounds, classes...)
		if many, err := alike.Forms(g, rounds); err != api.OK || many != len(b.lines) {
			t.Errorf("Forms of %s after %d: %d, %d comes, not %d", show(g), rounds, many, err, len(b.lines))
		}
		for k, class := range classes {
			if fmt.Sprint(worth[k]) != fmt.Sprint(worth[class]) {
				t.Errorf("%s after %d: %d and %d are in one class, but worth %v and %v", show(tidy), rounds, k, class, worth[k], worth[class])
			}
			if k != class {
				s.merged++
			}
		}
		least, heavy := b.least(tidy.Outs)
		if heavy {
			wantHeavy(t, g, rounds, api.ErrMuch)
			continue
		}
		wantLeast(t, g, rounds, least...)
		if slices.Compare(least, first) < 0 {
			s.lighter++
		}
		s.best(t, b, g, rounds, args)
	}
}

// best: what Best gives is worth what g gives, and made of forms that are there, of the classes that g gives.
func (s *seen) best(t *testing.T, b *book, g api.Graph, rounds int, args []api.Array) {
	t.Helper()
	best, err := alike.Best(g, rounds)
	got, gotErr := graph.Eval(best, args)
	want, _ := graph.Eval(g, args)
	if err != api.OK || gotErr != api.OK || fmt.Sprint(got) != fmt.Sprint(want) {
		t.Errorf("Best of %s after %d: %s comes, worth %v, not %v", show(g), rounds, show(best), got, want)
	}
	classes := make([]int, len(best.Nodes))
	for k, node := range best.Nodes {
		var of []int
		for _, at := range node.Args {
			of = append(of, classes[at])
		}
		if classes[k] = b.find(node.Op, of); classes[k] < 0 {
			t.Errorf("Best of %s after %d: %s comes: node %d is no form", show(g), rounds, show(best), k)
		}
	}
	outs := tidy(t, g).Outs
	for k, at := range best.Outs {
		if classes[at] != b.node[outs[k]] {
			t.Errorf("Best of %s after %d: %s comes: out %d is of another class", show(g), rounds, show(best), k)
		}
	}
}

// Graphs of all sorts are what the words of L1 to L5 say, and all rules have fitted among them.
func TestL1ToL5ByTheirWords(t *testing.T) {
	d := dice{rand.New(rand.NewPCG(6, 18))}
	s := &seen{fitted: map[string]int{}}
	sorts := [][]int{
		{api.Add, api.Mul, api.Sub, api.Fill},
		{api.Add, api.Mul, api.Max, api.Less, api.Pick, api.Sub},
		{api.Sum, api.Sum, api.Spread, api.Add, api.Fill, api.Mul},
		{api.Sum, api.Spread},
		{api.Turn, api.Turn, api.Flip, api.Reform, api.Add, api.Mul, api.Sum},
		{api.Dot, api.Dot, api.Dot, api.Turn, api.Add, api.Mul},
		{api.Flip, api.Reform, api.Turn, api.Less, api.Max, api.Pick, api.Join, api.Take},
		{api.Add, api.Sub, api.Mul, api.Max, api.Less, api.Pick, api.Fill, api.Spread, api.Sum, api.Turn, api.Reform, api.Flip, api.Dot, api.Join, api.Take},
	}
	for k := range 1600 {
		home := d.shape()
		if k%len(sorts) == 5 {
			home = l(2, 2)
		}
		s.compare(t, d, d.graph(d.IntN(4), 1+d.IntN(11), home, sorts[k%len(sorts)]...))
		if t.Failed() {
			return
		}
	}
	for _, r := range table() {
		if s.fitted[r.left+" "+r.right] < 50 {
			t.Errorf("%s is %s: it fitted %d times alone", r.left, r.right, s.fitted[r.left+" "+r.right])
		}
	}
	if s.right < 5000 || s.much < 15 || s.merged < 1000 || s.lighter < 200 {
		t.Errorf("dice have not shown enough: %d, %d, %d, %d", s.right, s.much, s.merged, s.lighter)
	}
}
