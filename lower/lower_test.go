package lower_test

import (
	"fmt"
	"slices"
	"testing"

	"adjoint/api"
	"adjoint/graph"
	"adjoint/lower"
)

func l(numbers ...int) []int { return numbers }

// of is a graph of two matrices and an operation on them.
func of(op api.Op, args ...int) api.Graph {
	one, two := api.Op{Kind: api.Param, Dims: l(2, 3), At: l(0)}, api.Op{Kind: api.Param, Dims: l(3, 2), At: l(1)}
	return api.Graph{Nodes: []api.Node{{Op: one}, {Op: two}, {Op: op, Args: args}}, Outs: l(2)}
}

// told are so many statements of the last node, at the most.
func told(t *testing.T, g api.Graph, many int) []api.Stmt {
	t.Helper()
	dims, err := graph.Dims(g)
	if err != api.OK {
		t.Fatalf("%v is wrong: %d", g, err)
	}
	var out []api.Stmt
	if many == 0 {
		return nil
	}
	for s := range lower.Stmts(g, dims, 2) {
		if out = append(out, s); len(out) == many {
			break
		}
	}
	return out
}

func TestCan(t *testing.T) {
	for kind := api.Fill; kind <= api.Put; kind++ {
		if got, want := lower.Can(of(api.Op{Kind: kind})), kind < api.Take; got != want {
			t.Errorf("%d: %v comes", kind, got)
		}
	}
	if !lower.Can(api.Graph{}) {
		t.Error("nothing can be worked out")
	}
}

func TestStmts(t *testing.T) {
	at := func(array, constant int, coefs ...int) api.Access {
		return api.Access{Array: array, At: api.Row{Coef: coefs, Const: constant}}
	}
	noughts := func(many int) api.Stmt {
		return api.Stmt{Over: api.Points{Box: l(many)}, Do: api.DoSet, Put: at(2, 0, 1), Get: []api.Access{}}
	}
	in := func(do int, box []int, put api.Access, get ...api.Access) api.Stmt {
		return api.Stmt{Over: api.Points{Box: box}, Do: do, Put: put, Get: get}
	}
	for _, c := range []struct {
		g    api.Graph
		want []api.Stmt
	}{
		{of(api.Op{Kind: api.Mul}, 0, 0), []api.Stmt{in(api.DoMul, l(6), at(2, 0, 1), at(0, 0, 1), at(0, 0, 1))}},
		{of(api.Op{Kind: api.Flip, At: l(1)}, 0), []api.Stmt{in(api.DoCopy, l(2, 3), at(2, 0, 3, 1), at(0, 2, 3, -1))}},
		{of(api.Op{Kind: api.Sum, At: l(0)}, 0), []api.Stmt{noughts(3), in(api.DoMore, l(2, 3), at(2, 0, 0, 1), at(0, 0, 3, 1))}},
		{of(api.Op{Kind: api.Pad, Lo: l(0, 1), Hi: l(0, 0), Step: l(1, 2)}, 0), []api.Stmt{noughts(12), in(api.DoCopy, l(2, 3), at(2, 1, 6, 2), at(0, 0, 3, 1))}},
		{of(api.Op{Kind: api.Dot, At: l(1), Step: l(0)}, 0, 1), []api.Stmt{noughts(4), in(api.DoMac, l(2, 2, 3), at(2, 0, 2, 1, 0), at(0, 0, 3, 0, 1), at(1, 0, 0, 1, 2))}},
		{of(api.Op{Kind: api.Join, At: l(0)}, 1, 1, 1), []api.Stmt{in(api.DoCopy, l(3, 2), at(2, 0, 2, 1), at(1, 0, 2, 1)), in(api.DoCopy, l(3, 2), at(2, 6, 2, 1), at(1, 0, 2, 1)), in(api.DoCopy, l(3, 2), at(2, 12, 2, 1), at(1, 0, 2, 1))}},
	} {
		// When whoever goes through them has said no, nothing more is told.
		for many := range len(c.want) + 2 {
			want := c.want[:min(many, len(c.want))]
			if got := told(t, c.g, many); fmt.Sprint(got) != fmt.Sprint(want) {
				t.Errorf("%v: %v comes, not %v", c.g, got, want)
			}
		}
		// Nothing of the graph or of one another is in them.
		dims, _ := graph.Dims(c.g)
		seen := slices.Collect(lower.Stmts(c.g, dims, 2))
		for _, s := range seen {
			s.Over.Box[0], s.Put.At.Coef[0] = -9, -9
		}
		if got := told(t, c.g, 9); fmt.Sprint(got) != fmt.Sprint(c.want) {
			t.Errorf("%v: %v comes afterwards, not %v", c.g, got, c.want)
		}
	}
}
