package nest_test

import (
	"fmt"
	"slices"
	"testing"

	"adjoint/api"
	"adjoint/array"
	"adjoint/graph"
	"adjoint/nest"
)

// par is a parameter.
func par(k int, dims ...int) api.Node {
	return api.Node{Op: api.Op{Kind: api.Param, Dims: dims, At: l(k)}}
}

// on is an operation on nodes.
func on(op api.Op, args ...int) api.Node { return api.Node{Op: op, Args: args} }

// node is an operation without fields, on nodes.
func node(kind int, args ...int) api.Node { return on(api.Op{Kind: kind}, args...) }

// fill is a number everywhere.
func fill(n int64, dims ...int) api.Node {
	return on(api.Op{Kind: api.Fill, Value: n, Dims: dims})
}

// giving is a graph.
func giving(outs []int, nodes ...api.Node) api.Graph { return api.Graph{Nodes: nodes, Outs: outs} }

// last is a graph that gives its last node.
func last(nodes ...api.Node) api.Graph { return giving(l(len(nodes)-1), nodes...) }

// size is how many entries there are.
func size(dims []int) int {
	many := 1
	for _, dim := range dims {
		many *= dim
	}
	return many
}

// steps are those of an array as it lies: the product of the dimensions behind each, or noughts if there are no entries.
func steps(dims []int) []int {
	out := make([]int, len(dims))
	for k := range dims {
		if size(dims) > 0 {
			out[k] = size(dims[k+1:])
		}
	}
	return out
}

// showLowered tells what Lower told.
func showLowered(low api.Lowered) string {
	return fmt.Sprintf("%s; ins%d; outs%d", show(low.Nest), low.Ins, low.Outs)
}

// wantLower: a graph is lowered to these statements, over arrays of these sizes.
func wantLower(t *testing.T, g api.Graph, want api.Lowered) {
	t.Helper()
	got, err := nest.Lower(g)
	if err != api.OK || showLowered(got) != showLowered(want) {
		t.Errorf("%v: %s, %d comes, not %s", g, cut(showLowered(got)), err, cut(showLowered(want)))
	}
	wantWorth(t, g)
}

// wantStmts: the last node of a graph without unneeded nodes, and with no other nodes than parameters ahead of it, has these statements.
func wantStmts(t *testing.T, g api.Graph, want ...api.Stmt) {
	t.Helper()
	dims, err := graph.Dims(g)
	if err != api.OK {
		t.Fatalf("%v is wrong: %d", g, err)
	}
	low := api.Lowered{Nest: api.Nest{Stmts: want}, Outs: g.Outs}
	for k, own := range dims {
		low.Nest.Sizes = append(low.Nest.Sizes, size(own))
		if k < graph.Params(g) {
			low.Ins = append(low.Ins, k)
		}
	}
	wantLower(t, g, low)
}

// wantNoLower: this error is told, and nothing else.
func wantNoLower(t *testing.T, g api.Graph, want api.Errno) {
	t.Helper()
	if got, err := nest.Lower(g); err != want || len(got.Nest.Sizes)+len(got.Nest.Stmts)+len(got.Ins)+len(got.Outs) > 0 {
		t.Errorf("%s: %s, %d comes, not %d", cut(fmt.Sprint(g)), cut(showLowered(got)), err, want)
	}
}

// wantWorth: the nest has, where Outs says, what the graph gives of arguments that are laid where Ins says, whatever lies elsewhere.
func wantWorth(t *testing.T, g api.Graph) {
	t.Helper()
	low, err := nest.Lower(g)
	if err != api.OK {
		t.Fatalf("%s can't be lowered: %d", cut(fmt.Sprint(g)), err)
	}
	d := thrown(4)
	for range 2 {
		var given [][]int64
		for _, size := range low.Nest.Sizes {
			given = append(given, d.numbers(size))
		}
		var args []api.Array
		for k, at := range low.Ins {
			dims := g.Nodes[k].Op.Dims
			args = append(args, api.Array{Dims: dims, Data: d.numbers(size(dims))})
			given[at] = args[k].Data
		}
		want, wrong := graph.Eval(g, args)
		got, err := nest.Run(low.Nest, given)
		if wrong != api.OK || err != api.OK || len(want) != len(low.Outs) {
			t.Fatalf("%s: %d, %d comes, and %d of %d", cut(fmt.Sprint(g)), wrong, err, len(low.Outs), len(want))
		}
		for k, at := range low.Outs {
			if !slices.Equal(got[at], want[k].Data) {
				t.Fatalf("%s of %v: %v comes, not %v", cut(fmt.Sprint(g)), args, got[at], want[k].Data)
			}
		}
	}
}

// flat is a statement over so many numbers, one behind the other, of these arrays.
func flat(what, size int, value int64, to int, from ...int) api.Stmt {
	s := api.Stmt{Over: in(l(size)), Do: what, Value: value, Put: at(to, 0, 1)}
	for _, array := range from {
		s.Get = append(s.Get, at(array, 0, 1))
	}
	return s
}

// lowerByHand is what a tidy graph is lowered to by the words of N4, be it right or not.
func lowerByHand(g api.Graph, dims [][]int) api.Lowered {
	low := api.Lowered{Outs: g.Outs}
	for k, own := range dims {
		low.Nest.Sizes = append(low.Nest.Sizes, size(own))
		if g.Nodes[k].Op.Kind == api.Param {
			low.Ins = append(low.Ins, k)
		}
	}
	for k, n := range g.Nodes {
		low.Nest.Stmts = append(low.Nest.Stmts, nodeByHand(k, n, dims)...)
	}
	return low
}

// nodeByHand are the statements of a node by the words of N4's table.
func nodeByHand(k int, n api.Node, dims [][]int) []api.Stmt {
	op, made := n.Op, dims[k]
	deeds := map[int]int{api.Add: api.DoAdd, api.Sub: api.DoSub, api.Mul: api.DoMul, api.Max: api.DoMax, api.Less: api.DoLess, api.Pick: api.DoPick, api.Reform: api.DoCopy}
	switch op.Kind {
	case api.Param:
		return nil
	case api.Fill:
		return []api.Stmt{flat(api.DoSet, size(made), op.Value, k)}
	case api.Add, api.Sub, api.Mul, api.Max, api.Less, api.Pick, api.Reform:
		return []api.Stmt{flat(deeds[op.Kind], size(made), 0, k, n.Args...)}
	case api.Join:
		var out []api.Stmt
		ahead := 0
		for _, arg := range n.Args {
			along := op.At[0]
			out = append(out, do(api.DoCopy, in(dims[arg]), at(k, steps(made)[along]*ahead, steps(made)...), at(arg, 0, steps(dims[arg])...)))
			ahead += dims[arg][along]
		}
		return out
	case api.Sum, api.Pad, api.Dot:
		return []api.Stmt{flat(api.DoSet, size(made), 0, k), gatheredByHand(k, n, dims)}
	}
	constant, coefs := seenByHand(op, dims[n.Args[0]])
	return []api.Stmt{do(api.DoCopy, in(made), at(k, 0, steps(made)...), at(n.Args[0], constant, coefs...))}
}

// gatheredByHand is the second statement of a Sum, a Pad or a Dot.
func gatheredByHand(k int, n api.Node, dims [][]int) api.Stmt {
	op, result, a := n.Op, steps(dims[k]), dims[n.Args[0]]
	var coefs []int
	switch op.Kind {
	case api.Sum:
		next := 0
		for dim := range a {
			if slices.Contains(op.At, dim) {
				coefs = append(coefs, 0)
			} else {
				coefs = append(coefs, result[next])
				next++
			}
		}
		return do(api.DoMore, in(a), at(k, 0, coefs...), at(n.Args[0], 0, steps(a)...))
	case api.Pad:
		constant := 0
		for dim, step := range result {
			constant += step * op.Lo[dim]
			coefs = append(coefs, step*op.Step[dim])
		}
		return do(api.DoCopy, in(a), at(k, constant, coefs...), at(n.Args[0], 0, steps(a)...))
	}
	b := dims[n.Args[1]]
	var box, put, getA, getB []int
	add := func(dim, to, ofA, ofB int) {
		box, put, getA, getB = append(box, dim), append(put, to), append(getA, ofA), append(getB, ofB)
	}
	for i, dim := range op.Lo {
		add(a[dim], result[len(put)], steps(a)[dim], steps(b)[op.Hi[i]])
	}
	for dim := range a {
		if !slices.Contains(op.Lo, dim) && !slices.Contains(op.At, dim) {
			add(a[dim], result[len(put)], steps(a)[dim], 0)
		}
	}
	for dim := range b {
		if !slices.Contains(op.Hi, dim) && !slices.Contains(op.Step, dim) {
			add(b[dim], result[len(put)], 0, steps(b)[dim])
		}
	}
	for i, dim := range op.At {
		add(a[dim], 0, steps(a)[dim], steps(b)[op.Step[i]])
	}
	return do(api.DoMac, in(box), at(k, 0, put...), at(n.Args[0], 0, getA...), at(n.Args[1], 0, getB...))
}

// seenByHand are the start and the steps of the view that chapters 1 and 2 tell of an array as it lies.
func seenByHand(op api.Op, a []int) (start int, coefs []int) {
	switch op.Kind {
	case api.Spread:
		coefs = make([]int, len(op.Dims))
		for k, dim := range op.At {
			coefs[dim] = steps(a)[k]
		}
	case api.Turn:
		for _, dim := range op.At {
			coefs = append(coefs, steps(a)[dim])
		}
	case api.Cut:
		for dim, step := range steps(a) {
			start += op.Lo[dim] * step
			coefs = append(coefs, step*op.Step[dim])
		}
	case api.Flip:
		coefs = steps(a)
		for _, dim := range op.At {
			if a[dim] > 0 {
				start += (a[dim] - 1) * coefs[dim]
			}
			coefs[dim] = -coefs[dim]
		}
	}
	return start, coefs
}

// list is one of so many numbers, each one of these.
func (d dice) list(many int, of ...int) []int {
	out := make([]int, many)
	for k := range out {
		out[k] = d.of(of...)
	}
	return out
}

// some are some of the numbers from 0 on, below many, in their order.
func (d dice) some(many int) []int {
	var out []int
	for k := range many {
		if d.IntN(2) == 0 {
			out = append(out, k)
		}
	}
	return out
}

// op is an operation that may fit arguments of these dimensions.
func (d dice) op(kind int, a, b []int) api.Op {
	op := api.Op{Kind: kind, Value: d.number()}
	switch kind {
	case api.Fill:
		op.Dims = d.list(d.IntN(6), 0, 1, 2, 2, 3)
	case api.Spread:
		op.Dims = slices.Clone(a)
		for range d.IntN(3) {
			op.Dims = slices.Insert(op.Dims, d.IntN(len(op.Dims)+1), d.of(0, 1, 2, 3))
		}
		op.At = d.some(len(op.Dims))
	case api.Sum, api.Flip:
		op.At = d.some(len(a))
	case api.Turn:
		op.At = d.Perm(len(a))
	case api.Reform:
		op.Dims = slices.Clone(a)
		d.Shuffle(len(op.Dims), func(i, k int) { op.Dims[i], op.Dims[k] = op.Dims[k], op.Dims[i] })
		op.Dims = append(op.Dims, d.list(d.IntN(2), 1)...)
	case api.Cut:
		op.Lo, op.Hi, op.Step = d.list(len(a), 0, 0, 1), slices.Clone(a), d.list(len(a), 1, 1, 2, 3)
		for k := range op.Hi {
			op.Hi[k] -= d.of(0, 0, 1)
		}
	case api.Pad:
		op.Lo, op.Hi, op.Step = d.list(len(a), 0, 0, 1, 2), d.list(len(a), 0, 0, 1), d.list(len(a), 1, 1, 2, 3)
	case api.Dot:
		together := d.IntN(3)
		op.At, op.Step = d.Perm(len(a)), d.Perm(len(b))
		if both := min(len(a), len(b)); together <= both {
			op.Lo, op.Hi = op.At[:together], op.Step[:together]
			summed := d.IntN(both - together + 1)
			op.At, op.Step = op.At[together:together+summed], op.Step[together:together+summed]
		}
	case api.Join:
		op.At = l(d.IntN(max(len(a), 1)))
	}
	return op
}

// graph is a right one, of small arrays, whose nodes are of these kinds.
func (d dice) graph(longest int, kinds ...int) api.Graph {
	var g api.Graph
	var dims [][]int
	for k := range 1 + d.IntN(3) {
		dims = append(dims, d.list(d.IntN(5), 0, 1, 2, 2, 3, 3))
		if d.IntN(3) == 0 {
			dims[k] = slices.Clone(dims[0])
		}
		g.Nodes = append(g.Nodes, par(k, dims[k]...))
	}
	takes := map[int]int{api.Fill: 0, api.Add: 2, api.Sub: 2, api.Mul: 2, api.Max: 2, api.Less: 2, api.Pick: 3, api.Dot: 2, api.Join: 2, api.Take: 2}
	for tries := 0; len(g.Nodes) < longest && tries < 400; tries++ {
		kind := kinds[d.IntN(len(kinds))]
		args := l(d.IntN(len(dims)), d.IntN(len(dims)), d.IntN(len(dims)))
		op := d.op(kind, dims[args[0]], dims[args[1]])
		many, ok := takes[kind]
		if !ok {
			many = 1
		}
		args = args[:many]
		var of [][]int
		for _, at := range args {
			of = append(of, dims[at])
		}
		if made, err := array.Dims(op, of); err == api.OK && size(made) <= 300 {
			dims = append(dims, made)
			g.Nodes = append(g.Nodes, on(op, args...))
		}
	}
	for range d.IntN(4) {
		g.Outs = append(g.Outs, d.IntN(len(g.Nodes)))
	}
	g.Outs = append(g.Outs, len(g.Nodes)-1)
	return g
}
