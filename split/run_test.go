package split_test

import (
	"math"
	"slices"
	"testing"

	"adjoint/api"
	"adjoint/graph"
	"adjoint/split"
)

// X1, X4: what each machine has of what lies everywhere, and of what is cut along its first, a middle and its last dimension.
func TestX1Parts(t *testing.T) {
	x := upTo(2, 4, 2)
	g := last(par(0, 2, 4, 2))
	wantRun(t, g, 2, l(every), arrays(x), [][]api.Array{{x, x}})
	wantRun(t, g, 2, l(0), arrays(x), [][]api.Array{{
		of(l(1, 4, 2), 1, 2, 3, 4, 5, 6, 7, 8), of(l(1, 4, 2), 9, 10, 11, 12, 13, 14, 15, 16)}})
	wantRun(t, g, 2, l(1), arrays(x), [][]api.Array{{
		of(l(2, 2, 2), 1, 2, 3, 4, 9, 10, 11, 12), of(l(2, 2, 2), 5, 6, 7, 8, 13, 14, 15, 16)}})
	wantRun(t, g, 2, l(2), arrays(x), [][]api.Array{{
		of(l(2, 4, 1), 1, 3, 5, 7, 9, 11, 13, 15), of(l(2, 4, 1), 2, 4, 6, 8, 10, 12, 14, 16)}})
	wantRun(t, g, 4, l(1), arrays(x), [][]api.Array{{
		of(l(2, 1, 2), 1, 2, 9, 10), of(l(2, 1, 2), 3, 4, 11, 12), of(l(2, 1, 2), 5, 6, 13, 14), of(l(2, 1, 2), 7, 8, 15, 16)}})
	for _, how := range l(every, 0, 1, 2) {
		wantRun(t, g, 1, l(how), arrays(x), [][]api.Array{{x}})
	}
	// As many machines as there may be.
	wide := upTo(32)
	var each []api.Array
	for m := range crowd {
		each = append(each, of(l(2), int64(2*m)+1, int64(2*m)+2))
	}
	wantRun(t, last(par(0, 32)), crowd, l(0), arrays(wide), [][]api.Array{each})
	// Of nothing each has nothing; and one number is everywhere.
	none := of(l(0, 3))
	wantRun(t, last(par(0, 0, 3)), 3, l(0), arrays(none), [][]api.Array{{none, none, none}})
	wantRun(t, last(par(0, 0, 3)), 3, l(1), arrays(none), [][]api.Array{{of(l(0, 1)), of(l(0, 1)), of(l(0, 1))}})
	wantRun(t, last(par(0)), 2, l(every), arrays(of(nil, 7)), [][]api.Array{{of(nil, 7), of(nil, 7)}})
	wantRun(t, api.Graph{}, 2, nil, nil, nil)
}

// X4: of each step what each machine has; ahead of a sum its own part of it.
func TestX4Sum(t *testing.T) {
	x := upTo(2, 3)
	all := of(l(3), 5, 7, 9)
	wantRun(t, last(par(0, 2, 3), on(sum(0), 0)), 2, l(0), arrays(x), [][]api.Array{
		{of(l(1, 3), 1, 2, 3), of(l(1, 3), 4, 5, 6)},
		{of(l(3), 1, 2, 3), of(l(3), 4, 5, 6)},
		{all, all},
	})
	// Sums wrap round.
	far := of(l(4), math.MaxInt64, math.MaxInt64, 2, math.MinInt64)
	one := of(nil, math.MinInt64)
	wantRun(t, last(par(0, 4), on(sum(0), 0)), 2, l(0), arrays(far), [][]api.Array{
		{of(l(2), math.MaxInt64, math.MaxInt64), of(l(2), 2, math.MinInt64)},
		{of(nil, -2), of(nil, math.MinInt64+2)},
		{one, one},
	})
}

// X4: what is gathered, owned and swapped.
func TestX4Brought(t *testing.T) {
	x, y := upTo(2, 2), of(l(2, 2), 10, 20, 30, 40)
	add := last(par(0, 2, 2), par(1, 2, 2), on(bare(api.Add), 0, 1))
	wantRun(t, add, 2, l(0, every), arrays(x, y), [][]api.Array{
		{of(l(1, 2), 1, 2), of(l(1, 2), 3, 4)},
		{y, y},
		{of(l(1, 2), 10, 20), of(l(1, 2), 30, 40)},
		{of(l(1, 2), 11, 22), of(l(1, 2), 33, 44)},
	})
	wantRun(t, add, 2, l(0, 1), arrays(x, y), [][]api.Array{
		{of(l(1, 2), 1, 2), of(l(1, 2), 3, 4)},
		{of(l(2, 1), 10, 30), of(l(2, 1), 20, 40)},
		{of(l(1, 2), 10, 20), of(l(1, 2), 30, 40)},
		{of(l(1, 2), 11, 22), of(l(1, 2), 33, 44)},
	})
	wantRun(t, add, 2, l(1, 0), arrays(x, y), [][]api.Array{
		{of(l(2, 1), 1, 3), of(l(2, 1), 2, 4)},
		{of(l(1, 2), 10, 20), of(l(1, 2), 30, 40)},
		{of(l(2, 1), 10, 30), of(l(2, 1), 20, 40)},
		{of(l(2, 1), 11, 33), of(l(2, 1), 22, 44)},
	})
	four := of(l(4), 1, 2, 3, 4)
	wantRun(t, last(par(0, 2, 2), on(reform(4), 0)), 2, l(1), arrays(x), [][]api.Array{
		{of(l(2, 1), 1, 3), of(l(2, 1), 2, 4)}, {x, x}, {four, four},
	})
}

// X4: rows that are no rows are so on each machine.
func TestX4TakeAndPut(t *testing.T) {
	rows := of(l(4), 1, -1, 2, 0)
	wantRun(t, last(par(0, 2, 2), par(1, 4), on(bare(api.Take), 0, 1)), 2, l(0, 0), arrays(upTo(2, 2), rows), [][]api.Array{
		{of(l(1, 2), 1, 2), of(l(1, 2), 3, 4)},
		{of(l(2), 1, -1), of(l(2), 2, 0)},
		{upTo(2, 2), upTo(2, 2)},
		{of(l(2, 2), 3, 4, 0, 0), of(l(2, 2), 0, 0, 1, 2)},
	})
	wantRun(t, last(par(0, 4), par(1, 4), on(put(2), 0, 1)), 2, l(0, every), arrays(upTo(4), rows), [][]api.Array{
		{of(l(2), 1, 2), of(l(2), 3, 4)},
		{rows, rows},
		{of(l(2), 1, -1), of(l(2), 2, 0)},
		{of(l(2), 0, 1), of(l(2), 4, 0)},
		{of(l(2), 4, 1), of(l(2), 4, 1)},
	})
}

// X3, X4: each step's operation fits what each machine has, and has the dimensions that the machines have of it; a sum, and what lies everywhere, is the same on all of them.
func TestX4Fits(t *testing.T) {
	d := thrown(9)
	for range 2000 {
		many := d.of(1, 2, 3, 4, crowd)
		g := d.graph(many, 1+d.IntN(4), d.IntN(8))
		how := d.how(g, many)
		p, _ := split.Split(g, many, how)
		has, _ := split.Run(g, many, how, d.arrays(paramDims(g)))
		for k, s := range p.Steps {
			if len(has[k]) != many {
				t.Fatalf("%s: %d machines have step %d", show(g), len(has[k]), k)
			}
			for m, a := range has[k] {
				if s.Do == api.StepLocal && s.Op.Kind != api.Param {
					var parts []api.Array
					for _, at := range s.Args {
						parts = append(parts, has[at][m])
					}
					if b := do(t, s.Op, parts, free(len(parts))); !sameArrays(arrays(a), arrays(b)) {
						t.Fatalf("%s lying %v: machine %d has %v of step %d, not %v", show(g), how, m, a, k, b)
					}
				}
				if (s.Do == api.StepSum || s.Do == api.StepGather) && !sameArrays(arrays(a), has[k][:1]) {
					t.Fatalf("%s lying %v: machine %d has %v of step %d, and machine 0 %v", show(g), how, m, a, k, has[k][0])
				}
			}
		}
	}
}

// great is a graph with each kind of step between machines, of arrays as great as can be, with as many dimensions as there may be.
func great() api.Graph {
	dims := l(16, 1, 16, 16, 1, 16)
	return last(par(0, dims...), par(1, dims...),
		on(bare(api.Add), 0, 1), on(turn(5, 4, 3, 2, 1, 0), 2), on(flip(5), 3), on(bare(api.Mul), 0, 4), on(sum(0), 5))
}

// X3 to X5 of arrays as great as can be, on as many machines as there may be.
func TestX4Great(t *testing.T) {
	g := great()
	for _, how := range [][]int{l(0, every), l(0, 3), l(2, 5), l(5, 0), l(every, every)} {
		wantByHand(t, thrown(10), g, crowd, how)
	}
	flat := last(par(0, 4096, 16), on(bare(api.Max), 0, 0), on(sum(0, 1), 1))
	for _, how := range l(every, 0, 1) {
		wantByHand(t, thrown(11), flat, crowd, l(how))
	}
}

// X3 to X5 of as many nodes as there may be: machines that talk again and again neither wait for ever nor mix one talk up with another.
func TestX4Long(t *testing.T) {
	g := giving(nil, par(0, 16, 16), par(1, 16, 16))
	for k := len(g.Nodes); k < api.MaxNodes; k++ {
		switch k % 3 {
		case 0:
			g.Nodes = append(g.Nodes, on(bare(api.Add), k-1, k-2))
		case 1:
			g.Nodes = append(g.Nodes, on(turn(1, 0), k-1))
		default:
			g.Nodes = append(g.Nodes, on(dot(l(1), l(0), nil, nil), k-1, max(k-3, 0)))
		}
	}
	g.Outs = l(api.MaxNodes - 1)
	for _, many := range l(1, 2, crowd) {
		for _, how := range [][]int{l(0, 1), l(1, 0)} {
			wantByHand(t, thrown(12), g, many, how)
		}
	}
	tidy, _ := graph.Tidy(g)
	if len(tidy.Nodes) < api.MaxNodes/2 {
		t.Errorf("%d nodes are needed", len(tidy.Nodes))
	}
}

// X3 to X5 of a Join of very many arguments, each of which is brought twice.
func TestX4Wide(t *testing.T) {
	// Most of them have no rows: so there can be so many.
	g := last(par(0, 0, 2), par(1, 2, 2), on(join(0), append(slices.Repeat(l(0), 3000), 1)...))
	b := wantByHand(t, thrown(13), g, 2, l(0, 1))
	if len(b.Steps) != 2+2*3000+1 {
		t.Errorf("there are %d steps", len(b.Steps))
	}
}
