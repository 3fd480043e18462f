package graph_test

import (
	"fmt"
	"slices"
	"strings"
	"testing"

	"adjoint/api"
	"adjoint/array"
	"adjoint/graph"
	"adjoint/text"
)

// l is a list.
func l(numbers ...int) []int { return numbers }

// ones are so many times 1.
func ones(many int) []int { return slices.Repeat(l(1), many) }

// of is an array.
func of(dims []int, data ...int64) api.Array { return api.Array{Dims: dims, Data: data} }

// one is an array without dimensions.
func one(n int64) api.Array { return of(nil, n) }

// row is an array of one dimension.
func row(data ...int64) api.Array { return of(l(len(data)), data...) }

// arrays are arrays.
func arrays(all ...api.Array) []api.Array { return all }

// par is a parameter.
func par(k int, dims ...int) api.Node {
	return api.Node{Op: api.Op{Kind: api.Param, Dims: dims, At: l(k)}}
}

// on is an operation on nodes.
func on(op api.Op, args ...int) api.Node { return api.Node{Op: op, Args: args} }

// node is an operation without fields, on nodes.
func node(kind int, args ...int) api.Node { return on(api.Op{Kind: kind}, args...) }

// fill is a number everywhere.
func fill(n int64, dims ...int) api.Node {
	return on(api.Op{Kind: api.Fill, Value: n, Dims: dims})
}

// sum is the sum over one dimension.
func sum(dim, of int) api.Node { return on(api.Op{Kind: api.Sum, At: l(dim)}, of) }

// giving is a graph.
func giving(outs []int, nodes ...api.Node) api.Graph { return api.Graph{Nodes: nodes, Outs: outs} }

// show tells a graph, each list with its numbers alone: nil and empty are told alike.
func show(g api.Graph) string {
	var lines []string
	for _, node := range g.Nodes {
		op := node.Op
		lines = append(lines, fmt.Sprintf("%d %d dims%d at%d lo%d hi%d step%d of%d", op.Kind, op.Value, op.Dims, op.At, op.Lo, op.Hi, op.Step, node.Args))
	}
	return strings.Join(lines, "; ") + fmt.Sprintf("; gives%d", g.Outs)
}

// cut is the beginning of what may be very long.
func cut(s string) string {
	if len(s) > 1500 {
		return fmt.Sprintf("%.1500s.. (%d bytes)", s, len(s))
	}
	return s
}

// sameGraph tells whether two graphs are alike in all fields (nil and empty are the same).
func sameGraph(a, b api.Graph) bool { return show(a) == show(b) }

// sameArrays tells whether two lists of arrays are alike (nil and empty are the same).
func sameArrays(a, b []api.Array) bool {
	return slices.EqualFunc(a, b, func(a, b api.Array) bool {
		return slices.Equal(a.Dims, b.Dims) && slices.Equal(a.Data, b.Data)
	})
}

// sameDims tells whether two lists of dimensions are alike (nil and empty are the same).
func sameDims(a, b [][]int) bool {
	return slices.EqualFunc(a, b, func(a, b []int) bool { return slices.Equal(a, b) })
}

// nothing are the arguments of a graph: noughts.
func nothing(g api.Graph) []api.Array {
	var args []api.Array
	for _, node := range g.Nodes[:graph.Params(g)] {
		size := 1
		for _, dim := range node.Op.Dims {
			size *= dim
		}
		args = append(args, api.Array{Dims: node.Op.Dims, Data: make([]int64, size)})
	}
	return args
}

// wantWrong: this is wrong with a graph, and all calls tell it of the graph and nothing else, in whatever place it stands, whatever else is handed in. (OK: nothing is.)
func wantWrong(t *testing.T, g api.Graph, want api.Errno) {
	t.Helper()
	if got := graph.Wrong(g); got != want {
		t.Errorf("Wrong of %s: %d comes, not %d", cut(show(g)), got, want)
	}
	if want == api.OK {
		return
	}
	if dims, err := graph.Dims(g); err != want || len(dims) > 0 {
		t.Errorf("Dims of %s: %v, %d comes, not %d", cut(show(g)), dims, err, want)
	}
	if weight, err := graph.Weight(g); err != want || weight != 0 {
		t.Errorf("Weight of %s: %d, %d comes, not %d", cut(show(g)), weight, err, want)
	}
	for _, args := range [][]api.Array{nil, arrays(of(l(-1)))} {
		wantNoArrays(t, g, args, want)
	}
	noGraph(t, "Tidy", want)(graph.Tidy(g))
	fine := giving(l(0), par(0, 2))
	noGraph(t, "After, first", want)(graph.After(g, fine))
	noGraph(t, "After, second", want)(graph.After(fine, g))
	noGraph(t, "After, both", want)(graph.After(g, g))
}

// wantDims: nothing is wrong with a graph, and its nodes have these dimensions.
func wantDims(t *testing.T, g api.Graph, want ...[]int) {
	t.Helper()
	wantWrong(t, g, api.OK)
	if got, err := graph.Dims(g); err != api.OK || !sameDims(got, want) {
		t.Errorf("Dims of %s: %v, %d comes, not %v", cut(show(g)), got, err, want)
	}
}

// noGraph: a graph came that is none, and this error.
func noGraph(t *testing.T, what string, want api.Errno) func(api.Graph, api.Errno) {
	t.Helper()
	return func(got api.Graph, err api.Errno) {
		t.Helper()
		if err != want || len(got.Nodes) > 0 || len(got.Outs) > 0 {
			t.Errorf("%s: %s, %d comes, not %d", cut(what), cut(show(got)), err, want)
		}
	}
}

// isGraph: this graph came, and all is well.
func isGraph(t *testing.T, what string, want api.Graph) func(api.Graph, api.Errno) {
	t.Helper()
	return func(got api.Graph, err api.Errno) {
		t.Helper()
		if err != api.OK || !sameGraph(got, want) {
			t.Errorf("%s: %s, %d comes, not %s", cut(what), cut(show(got)), err, cut(show(want)))
		}
	}
}

// wantNoArrays: Eval tells this error, and nothing else.
func wantNoArrays(t *testing.T, g api.Graph, args []api.Array, want api.Errno) {
	t.Helper()
	if got, err := graph.Eval(g, args); err != want || len(got) > 0 {
		t.Errorf("Eval of %s with %v: %v, %d comes, not %d", cut(show(g)), args, got, err, want)
	}
}

// wantEval: a graph gives these, of these arguments.
func wantEval(t *testing.T, g api.Graph, args []api.Array, want ...api.Array) {
	t.Helper()
	if got, err := graph.Eval(g, args); err != api.OK || !sameArrays(got, want) {
		t.Errorf("Eval of %s with %v: %v, %d comes, not %v", cut(show(g)), args, got, err, want)
	}
}

// wantTidy: the tidy graph of g is this one, which is its own.
func wantTidy(t *testing.T, g, want api.Graph) {
	t.Helper()
	isGraph(t, "Tidy of "+show(g), want)(graph.Tidy(g))
	isGraph(t, "Tidy of "+show(want), want)(graph.Tidy(want))
}

// read is the program of a text.
func read(t *testing.T, s string) []api.Func {
	t.Helper()
	p, f := text.Read(s)
	if f.Err != api.OK {
		t.Fatalf("%q can't be read: %v", cut(s), f)
	}
	return p
}

// dimsOf are the dimensions of arrays.
func dimsOf(args []api.Array) [][]int {
	all := [][]int{}
	for _, a := range args {
		all = append(all, a.Dims)
	}
	return all
}

// valuesByHand are what all nodes are worth, worked out one by one.
func valuesByHand(t *testing.T, g api.Graph, args []api.Array) []api.Array {
	t.Helper()
	values := slices.Clone(args)
	for _, node := range g.Nodes[len(args):] {
		var of []api.Array
		for _, at := range node.Args {
			of = append(of, values[at])
		}
		a, err := array.Do(node.Op, of)
		if err != api.OK {
			t.Fatalf("%s: %d", cut(show(g)), err)
		}
		values = append(values, a)
	}
	return values
}

// evalByHand is what a graph gives.
func evalByHand(t *testing.T, g api.Graph, args []api.Array) []api.Array {
	t.Helper()
	values := valuesByHand(t, g, args)
	var out []api.Array
	for _, at := range g.Outs {
		out = append(out, values[at])
	}
	return out
}

// tidyByHand is the tidy graph by the words of G4: first it is found which node stands for which, in the order of g, then the order of the new one.
func tidyByHand(g api.Graph, params int) api.Graph {
	first := make([]int, len(g.Nodes))
	args := make([][]int, len(g.Nodes))
	for i, node := range g.Nodes {
		for _, at := range node.Args {
			args[i] = append(args[i], first[at])
		}
		for !array.Same(g.Nodes[first[i]].Op, node.Op) || !slices.Equal(args[first[i]], args[i]) {
			first[i]++
		}
	}
	var order, outs []int
	for k := range params {
		order = append(order, k)
	}
	var visit func(at int)
	visit = func(at int) {
		if slices.Contains(order, at) {
			return
		}
		for _, k := range args[at] {
			visit(k)
		}
		order = append(order, at)
	}
	for _, at := range g.Outs {
		visit(first[at])
		outs = append(outs, slices.Index(order, first[at]))
	}
	tidy := api.Graph{Outs: outs}
	for _, at := range order {
		node := api.Node{Op: array.Plain(g.Nodes[at].Op)}
		for _, k := range args[at] {
			node.Args = append(node.Args, slices.Index(order, k))
		}
		tidy.Nodes = append(tidy.Nodes, node)
	}
	return tidy
}

// chainByHand is all of f, and all of g on what f gives, however many nodes that is: it is not tidy.
func chainByHand(f, g api.Graph) api.Graph {
	out := api.Graph{Nodes: slices.Clone(f.Nodes)}
	stands := slices.Clone(f.Outs)
	for _, node := range g.Nodes[len(f.Outs):] {
		var args []int
		for _, at := range node.Args {
			args = append(args, stands[at])
		}
		stands = append(stands, len(out.Nodes))
		out.Nodes = append(out.Nodes, api.Node{Op: node.Op, Args: args})
	}
	for _, at := range g.Outs {
		out.Outs = append(out.Outs, stands[at])
	}
	return out
}
