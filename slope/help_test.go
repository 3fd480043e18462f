package slope_test

import (
	"fmt"
	"slices"
	"strings"
	"testing"

	"adjoint/api"
	"adjoint/array"
	"adjoint/graph"
	"adjoint/slope"
)

// l is a list.
func l(numbers ...int) []int { return numbers }

// of is an array.
func of(dims []int, data ...int64) api.Array { return api.Array{Dims: dims, Data: data} }

// one is an array without dimensions.
func one(n int64) api.Array { return of(nil, n) }

// row is an array of one dimension.
func row(data ...int64) api.Array { return of(l(len(data)), data...) }

// arrays are arrays.
func arrays(all ...api.Array) []api.Array { return all }

// upTo is an array of these dimensions with the numbers 1, 2, ..
func upTo(dims ...int) api.Array {
	a := noughts(dims)
	for i := range a.Data {
		a.Data[i] = int64(i) + 1
	}
	return a
}

// size is how many entries there are.
func size(dims []int) int {
	many := 1
	for _, dim := range dims {
		many *= dim
	}
	return many
}

// noughts is an array of noughts.
func noughts(dims []int) api.Array { return of(dims, make([]int64, size(dims))...) }

// par is a parameter.
func par(k int, dims ...int) api.Node {
	return api.Node{Op: api.Op{Kind: api.Param, Dims: dims, At: l(k)}}
}

// on is an operation on nodes.
func on(op api.Op, args ...int) api.Node { return api.Node{Op: op, Args: args} }

// node is an operation without fields, on nodes.
func node(kind int, args ...int) api.Node { return on(api.Op{Kind: kind}, args...) }

// fill is a number everywhere.
func fill(n int64, dims ...int) api.Node {
	return on(api.Op{Kind: api.Fill, Value: n, Dims: dims})
}

// sum is the sum over one dimension.
func sum(dim, of int) api.Node { return on(api.Op{Kind: api.Sum, At: l(dim)}, of) }

// giving is a graph.
func giving(outs []int, nodes ...api.Node) api.Graph { return api.Graph{Nodes: nodes, Outs: outs} }

// show tells a graph, each list with its numbers alone: nil and empty are told alike.
func show(g api.Graph) string {
	var lines []string
	for _, node := range g.Nodes {
		op := node.Op
		lines = append(lines, fmt.Sprintf("%d %d dims%d at%d lo%d hi%d step%d of%d", op.Kind, op.Value, op.Dims, op.At, op.Lo, op.Hi, op.Step, node.Args))
	}
	return cut(strings.Join(lines, "; ")) + cut(fmt.Sprintf("; gives%d", g.Outs))
}

// cut is the beginning of what may be very long.
func cut(s string) string {
	if len(s) > 1500 {
		return fmt.Sprintf("%.1500s.. (%d bytes)", s, len(s))
	}
	return s
}

// sameArrays tells whether two lists of arrays are alike (nil and empty are the same).
func sameArrays(a, b []api.Array) bool {
	return slices.EqualFunc(a, b, func(a, b api.Array) bool {
		return slices.Equal(a.Dims, b.Dims) && slices.Equal(a.Data, b.Data)
	})
}

// paramDims are the dimensions of a graph's parameters.
func paramDims(g api.Graph) [][]int {
	var all [][]int
	for _, node := range g.Nodes[:graph.Params(g)] {
		all = append(all, node.Op.Dims)
	}
	return all
}

// outDims are the dimensions of what a right graph gives.
func outDims(t *testing.T, g api.Graph) [][]int {
	t.Helper()
	dims, err := graph.Dims(g)
	if err != api.OK {
		t.Fatalf("%s is wrong: %d", show(g), err)
	}
	var all [][]int
	for _, at := range g.Outs {
		all = append(all, dims[at])
	}
	return all
}

// wantFaces: a right graph came, with parameters of these dimensions, that gives arrays of those.
func wantFaces(t *testing.T, what string, params, outs [][]int) func(api.Graph, api.Errno) api.Graph {
	t.Helper()
	return func(got api.Graph, err api.Errno) api.Graph {
		t.Helper()
		if err != api.OK || graph.Wrong(got) != api.OK {
			t.Fatalf("%s: %s, %d comes: it is wrong: %d", what, show(got), err, graph.Wrong(got))
		}
		alike := func(a, b []int) bool { return slices.Equal(a, b) }
		if !slices.EqualFunc(paramDims(got), params, alike) || !slices.EqualFunc(outDims(t, got), outs, alike) {
			t.Fatalf("%s: %s comes, with parameters %v, giving %v, not %v and %v", what, show(got), paramDims(got), outDims(t, got), params, outs)
		}
		return got
	}
}

// ahead is Forward of a right graph, which has the faces of D3, and weighs no more than D5 says.
func ahead(t *testing.T, g api.Graph) api.Graph {
	t.Helper()
	params, outs := paramDims(g), outDims(t, g)
	got := wantFaces(t, "Forward of "+show(g), slices.Concat(params, params), slices.Concat(outs, outs))(slope.Forward(g))
	wantCheap(t, "Forward", g, got)
	return got
}

// backward is Reverse of a right graph, which has the faces of D4, and weighs no more than D5 says.
func backward(t *testing.T, g api.Graph) api.Graph {
	t.Helper()
	params, outs := paramDims(g), outDims(t, g)
	got := wantFaces(t, "Reverse of "+show(g), slices.Concat(params, outs), params)(slope.Reverse(g))
	wantCheap(t, "Reverse", g, got)
	return got
}

// wantCheap: what came of g weighs no more than 16 times what g does, with the entries of its parameters and of what it gives.
func wantCheap(t *testing.T, what string, g, got api.Graph) {
	t.Helper()
	may, _ := graph.Weight(g)
	for _, dims := range slices.Concat(paramDims(g), outDims(t, g)) {
		may += size(dims)
	}
	if weight, err := graph.Weight(got); err != api.OK || weight > 16*may {
		t.Errorf("%s of %s: %s comes: it weighs %d, more than 16 times %d", what, show(g), show(got), weight, may)
	}
}

// eval is what a right graph gives of arguments that fit.
func eval(t *testing.T, g api.Graph, args ...[]api.Array) []api.Array {
	t.Helper()
	got, err := graph.Eval(g, slices.Concat(args...))
	if err != api.OK {
		t.Fatalf("%s of %v: %d", show(g), args, err)
	}
	return got
}

// wantAhead: of these arguments and their slopes Forward's graph gives what g gives, and these slopes.
func wantAhead(t *testing.T, g api.Graph, args, slopes []api.Array, want ...api.Array) {
	t.Helper()
	all := slices.Concat(eval(t, g, args), want)
	if got := eval(t, ahead(t, g), args, slopes); !sameArrays(got, all) {
		t.Errorf("Forward of %s with %v and the slopes %v: %v comes, not %v", show(g), args, slopes, got, all)
	}
}

// wantBackward: of these arguments, and of what is told to what g gives, Reverse's graph gives this.
func wantBackward(t *testing.T, g api.Graph, args, told []api.Array, want ...api.Array) {
	t.Helper()
	if got := eval(t, backward(t, g), args, told); !sameArrays(got, want) {
		t.Errorf("Reverse of %s with %v, told %v: %v comes, not %v", show(g), args, told, got, want)
	}
}

// wantErr: both tell this error, and nothing else.
func wantErr(t *testing.T, what string, g api.Graph, want api.Errno) {
	t.Helper()
	for name, call := range map[string]func(api.Graph) (api.Graph, api.Errno){"Forward": slope.Forward, "Reverse": slope.Reverse} {
		if got, err := call(g); err != want || len(got.Nodes)+len(got.Outs) > 0 {
			t.Errorf("%s, %s: %s, %d comes, not %d", name, what, show(got), err, want)
		}
	}
}

// inner is the sum of the inner products of arrays, in pairs.
func inner(t *testing.T, a, b []api.Array) int64 {
	t.Helper()
	all := int64(0)
	for k := range a {
		n, err := array.Inner(a[k], b[k])
		if err != api.OK {
			t.Fatalf("%v and %v do not fit: %d", a[k], b[k], err)
		}
		all += n
	}
	return all
}
