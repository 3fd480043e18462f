package replay_test

import (
	"math/rand/v2"
	"slices"
	"strconv"
	"strings"
	"testing"

	"adjoint/api"
	"adjoint/graph"
	"adjoint/replay"
	"adjoint/text"
)

// moves are written one behind the other: a (ahead), b (back), k0 (keep in slot 0), l0 (load slot 0), x9 (Do is 9).
func moves(s string) []api.Move {
	var all []api.Move
	for _, word := range strings.Fields(s) {
		n, _ := strconv.Atoi(word[1:])
		switch word[0] {
		case 'a':
			all = append(all, api.Move{Do: api.MoveAhead, N: n})
		case 'b':
			all = append(all, api.Move{Do: api.MoveBack, N: n})
		case 'k':
			all = append(all, api.Move{Do: api.MoveKeep, N: n})
		case 'l':
			all = append(all, api.Move{Do: api.MoveLoad, N: n})
		default:
			all = append(all, api.Move{Do: n})
		}
	}
	return all
}

// wantPlay: these moves come to an end, and cost so much.
func wantPlay(t *testing.T, n, slots int, s string, cost int) {
	t.Helper()
	if got, err := replay.Play(n, slots, moves(s)); got != cost || err != api.OK {
		t.Errorf("%d steps, %d slots, %q: %d, %d comes, not %d", n, slots, s, got, err, cost)
	}
}

// wantNoPlay: these moves meet this error, or leave steps.
func wantNoPlay(t *testing.T, n, slots int, s string, want api.Errno) {
	t.Helper()
	if got, err := replay.Play(n, slots, moves(s)); got != 0 || err != want {
		t.Errorf("%d steps, %d slots, %q: %d, %d comes, not %d", n, slots, s, got, err, want)
	}
}

// wantNext: after these moves a last one can be made, or meets this error. Behind it stands a move that is none, so that it does not matter whether steps are left.
func wantNext(t *testing.T, n, slots int, s, next string, want api.Errno) {
	t.Helper()
	wantNoPlay(t, n, slots, s+" x9", api.ErrKind)
	if want == api.OK {
		want = api.ErrKind
	}
	wantNoPlay(t, n, slots, s+" "+next+" x9", want)
}

// beyond are numbers of steps and of slots of which one, or both, are beyond their ends.
func beyond() [][2]int {
	const great, small = 1<<63 - 1, -1 << 63
	return [][2]int{
		{-1, 0}, {-1, 1}, {-1, 16}, {257, 0}, {257, 1}, {257, 16}, {great, 1}, {small, 1}, {great, 0}, {small, 0},
		{0, -1}, {1, -1}, {2, -1}, {256, -1}, {0, 17}, {1, 17}, {2, 17}, {256, 17}, {5, great}, {5, small}, {0, great}, {1, small},
		{-1, -1}, {257, 17}, {-1, 17}, {257, -1}, {great, great}, {small, small}, {great, small},
	}
}

// l is a list.
func l(numbers ...int) []int { return numbers }

// of is an array.
func of(dims []int, data ...int64) api.Array { return api.Array{Dims: dims, Data: data} }

// one is an array without dimensions.
func one(n int64) api.Array { return of(nil, n) }

// row is an array of one dimension.
func row(data ...int64) api.Array { return of(l(len(data)), data...) }

// par is a parameter.
func par(k int, dims ...int) api.Node {
	return api.Node{Op: api.Op{Kind: api.Param, Dims: dims, At: l(k)}}
}

// on is an operation on nodes.
func on(op api.Op, args ...int) api.Node { return api.Node{Op: op, Args: args} }

// node is an operation without fields, on nodes.
func node(kind int, args ...int) api.Node { return on(api.Op{Kind: kind}, args...) }

// fill is a number everywhere.
func fill(n int64, dims ...int) api.Node {
	return on(api.Op{Kind: api.Fill, Value: n, Dims: dims})
}

// giving is a graph.
func giving(outs []int, nodes ...api.Node) api.Graph { return api.Graph{Nodes: nodes, Outs: outs} }

// step is the graph of an expression in x, an array of these dimensions.
func step(t *testing.T, expr string, dims ...int) api.Graph {
	t.Helper()
	names := strings.Join(strings.Fields("a b c d e f")[:len(dims)], " ")
	p, fault := text.Read("fn step(x: [" + names + "]) = " + expr + ";")
	g, err := graph.Build(p, "step", [][]int{dims})
	if fault.Err != api.OK || err != api.OK {
		t.Fatalf("%s: %v, %d", expr, fault, err)
	}
	return g
}

// same tells whether two arrays are alike (nil and empty are the same).
func same(a, b api.Array) bool {
	return slices.Equal(a.Dims, b.Dims) && slices.Equal(a.Data, b.Data)
}

// wantGradient: so many steps back x is told this, with each number of slots that is enough.
func wantGradient(t *testing.T, g api.Graph, n int, x, u, want api.Array) {
	t.Helper()
	for slots := range 17 {
		if n > 1 && slots == 0 || n > 64 && slots > 1 && slots < 16 {
			continue
		}
		if got, err := replay.Gradient(g, n, slots, x, u); !same(got, want) || err != api.OK {
			t.Errorf("%d steps of %v, %d slots, from %v on, told %v: %v, %d comes, not %v", n, g, slots, x, u, got, err, want)
		}
	}
}

// wantNoGradient: this error comes, and nothing else.
func wantNoGradient(t *testing.T, what string, g api.Graph, n, slots int, x, u api.Array, want api.Errno) {
	t.Helper()
	if got, err := replay.Gradient(g, n, slots, x, u); len(got.Dims)+len(got.Data) > 0 || err != want {
		t.Errorf("%s: %v, %d comes, not %d", what, got, err, want)
	}
}

// dice are thrown the same way each time.
type dice struct{ *rand.Rand }

func (d dice) of(all ...int) int { return all[d.IntN(len(all))] }

// array is one of these dimensions with numbers small and great.
func (d dice) array(dims []int) api.Array {
	many := 1
	for _, dim := range dims {
		many *= dim
	}
	a := of(dims)
	for range many {
		n := d.Int64N(7) - 3
		if d.IntN(4) == 0 {
			n = int64(d.Uint64())
		}
		a.Data = append(a.Data, n)
	}
	return a
}
