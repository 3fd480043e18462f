package nest_test

import (
	"slices"
	"testing"

	"adjoint/api"
	"adjoint/graph"
	"adjoint/nest"
)

// spread, sum, turn, reform, slice, pad, flip, dot and join are operations with their fields.
func spread(dims []int, at ...int) api.Op { return api.Op{Kind: api.Spread, Dims: dims, At: at} }
func sum(at ...int) api.Op                { return api.Op{Kind: api.Sum, At: at} }
func turn(at ...int) api.Op               { return api.Op{Kind: api.Turn, At: at} }
func reform(dims ...int) api.Op           { return api.Op{Kind: api.Reform, Dims: dims} }
func slice(lo, hi, step []int) api.Op     { return api.Op{Kind: api.Cut, Lo: lo, Hi: hi, Step: step} }
func pad(lo, hi, step []int) api.Op       { return api.Op{Kind: api.Pad, Lo: lo, Hi: hi, Step: step} }
func flip(at ...int) api.Op               { return api.Op{Kind: api.Flip, At: at} }
func dot(at, step, lo, hi []int) api.Op {
	return api.Op{Kind: api.Dot, At: at, Step: step, Lo: lo, Hi: hi}
}
func join(at int) api.Op { return api.Op{Kind: api.Join, At: l(at)} }

// N4: a number everywhere, with each number of dimensions, with those of 1 and of 0.
func TestN4Fill(t *testing.T) {
	for _, dims := range [][]int{nil, l(1), l(0), l(4), l(2, 3), l(2, 0, 3), l(1, 1, 1), l(2, 1, 3, 1), l(1, 2, 1, 2, 1), l(2, 2, 1, 1, 1, 2), l(4096), l(64, 64)} {
		for _, n := range w(low, -1, 0, 7, top) {
			wantStmts(t, last(fill(n, dims...)), set(n, in(l(size(dims))), at(0, 0, 1)))
		}
	}
}

// N4: entry by entry, flat.
func TestN4EntryByEntry(t *testing.T) {
	pairs := [][2]int{{api.Add, api.DoAdd}, {api.Sub, api.DoSub}, {api.Mul, api.DoMul}, {api.Max, api.DoMax}, {api.Less, api.DoLess}}
	for _, dims := range [][]int{nil, l(1), l(0), l(5), l(2, 3), l(3, 0), l(2, 1, 2), l(2, 2, 2, 2), l(1, 2, 1, 2, 2), l(1, 1, 2, 1, 1, 1), l(4096)} {
		many := in(l(size(dims)))
		for _, p := range pairs {
			wantStmts(t, last(par(0, dims...), par(1, dims...), node(p[0], 0, 1)), do(p[1], many, at(2, 0, 1), at(0, 0, 1), at(1, 0, 1)))
			wantStmts(t, last(par(0, dims...), par(1, dims...), node(p[0], 1, 0)), do(p[1], many, at(2, 0, 1), at(1, 0, 1), at(0, 0, 1)))
			wantStmts(t, last(par(0, dims...), node(p[0], 0, 0)), do(p[1], many, at(1, 0, 1), at(0, 0, 1), at(0, 0, 1)))
		}
		pick := do(api.DoPick, many, at(3, 0, 1), at(2, 0, 1), at(0, 0, 1), at(1, 0, 1))
		wantStmts(t, last(par(0, dims...), par(1, dims...), par(2, dims...), node(api.Pick, 2, 0, 1)), pick)
	}
}

// N4: the same numbers in other dimensions.
func TestN4Reform(t *testing.T) {
	for _, c := range [][2][]int{{nil, l(1)}, {l(1), nil}, {l(6), l(2, 3)}, {l(2, 3), l(3, 2)}, {l(0), l(3, 0, 2)}, {l(2, 2, 2, 2, 2), l(32)}, {l(32), l(1, 2, 2, 2, 2, 2)}, {l(4096), l(64, 64)}} {
		g := last(par(0, c[0]...), on(reform(c[1]...), 0))
		wantStmts(t, g, do(api.DoCopy, in(l(size(c[0]))), at(1, 0, 1), at(0, 0, 1)))
	}
}

// N4: sums.
func TestN4Sum(t *testing.T) {
	for _, c := range []struct {
		dims, at []int
		size     int
		second   api.Stmt
	}{
		{l(4), l(0), 1, do(api.DoMore, in(l(4)), at(1, 0, 0), at(0, 0, 1))},
		{l(4), nil, 4, do(api.DoMore, in(l(4)), at(1, 0, 1), at(0, 0, 1))},
		{nil, nil, 1, do(api.DoMore, in(nil), at(1, 0), at(0, 0))},
		{l(2, 3), l(0), 3, do(api.DoMore, in(l(2, 3)), at(1, 0, 0, 1), at(0, 0, 3, 1))},
		{l(2, 3), l(1), 2, do(api.DoMore, in(l(2, 3)), at(1, 0, 1, 0), at(0, 0, 3, 1))},
		{l(2, 3), l(0, 1), 1, do(api.DoMore, in(l(2, 3)), at(1, 0, 0, 0), at(0, 0, 3, 1))},
		{l(2, 3, 4), l(1), 8, do(api.DoMore, in(l(2, 3, 4)), at(1, 0, 4, 0, 1), at(0, 0, 12, 4, 1))},
		{l(2, 3, 1, 4), l(0, 2), 12, do(api.DoMore, in(l(2, 3, 1, 4)), at(1, 0, 0, 4, 0, 1), at(0, 0, 12, 4, 4, 1))},
		{l(0, 3), l(0), 3, do(api.DoMore, in(l(0, 3)), at(1, 0, 0, 1), at(0, 0, 0, 0))},
		{l(0, 3), l(1), 0, do(api.DoMore, in(l(0, 3)), at(1, 0, 0, 0), at(0, 0, 0, 0))},
		{l(2, 0, 3), l(1), 6, do(api.DoMore, in(l(2, 0, 3)), at(1, 0, 3, 0, 1), at(0, 0, 0, 0, 0))},
	} {
		first := set(0, in(l(c.size)), at(1, 0, 1))
		wantStmts(t, last(par(0, c.dims...), on(sum(c.at...), 0)), first, c.second)
	}
}

// N4: noughts around and between.
func TestN4Pad(t *testing.T) {
	for _, c := range []struct {
		dims, lo, hi, step []int
		size               int
		second             api.Stmt
	}{
		{nil, nil, nil, nil, 1, do(api.DoCopy, in(nil), at(1, 0), at(0, 0))},
		{l(3), l(2), l(1), l(1), 6, do(api.DoCopy, in(l(3)), at(1, 2, 1), at(0, 0, 1))},
		{l(3), l(0), l(0), l(4), 9, do(api.DoCopy, in(l(3)), at(1, 0, 4), at(0, 0, 1))},
		{l(2, 3), l(1, 2), l(0, 1), l(2, 1), 24, do(api.DoCopy, in(l(2, 3)), at(1, 8, 12, 1), at(0, 0, 3, 1))},
		{l(2, 1, 2), l(0, 1, 0), l(0, 1, 0), l(1, 5, 3), 24, do(api.DoCopy, in(l(2, 1, 2)), at(1, 4, 12, 20, 3), at(0, 0, 2, 2, 1))},
		{l(1, 2, 1, 2), l(1, 0, 0, 1), l(0, 0, 1, 0), l(1, 2, 1, 1), 36, do(api.DoCopy, in(l(1, 2, 1, 2)), at(1, 19, 18, 12, 3, 1), at(0, 0, 4, 2, 2, 1))},
		{l(0), l(3), l(2), l(7), 5, do(api.DoCopy, in(l(0)), at(1, 3, 7), at(0, 0, 0))},
		{l(0, 2), l(1, 1), l(0, 0), l(1, 2), 4, do(api.DoCopy, in(l(0, 2)), at(1, 5, 4, 2), at(0, 0, 0, 0))},
		{l(0, 2), l(0, 1), l(0, 0), l(1, 2), 0, do(api.DoCopy, in(l(0, 2)), at(1, 0, 0, 0), at(0, 0, 0, 0))},
	} {
		first := set(0, in(l(c.size)), at(1, 0, 1))
		wantStmts(t, last(par(0, c.dims...), on(pad(c.lo, c.hi, c.step), 0)), first, c.second)
	}
}

// N4: sums of products.
func TestN4Dot(t *testing.T) {
	for _, c := range []struct {
		a, b   []int
		op     api.Op
		size   int
		second api.Stmt
	}{
		{nil, nil, dot(nil, nil, nil, nil), 1, do(api.DoMac, in(nil), at(2, 0), at(0, 0), at(1, 0))},
		{l(3), l(3), dot(l(0), l(0), nil, nil), 1, do(api.DoMac, in(l(3)), at(2, 0, 0), at(0, 0, 1), at(1, 0, 1))},
		{l(3), l(3), dot(nil, nil, l(0), l(0)), 3, do(api.DoMac, in(l(3)), at(2, 0, 1), at(0, 0, 1), at(1, 0, 1))},
		{l(3), l(2), dot(nil, nil, nil, nil), 6, do(api.DoMac, in(l(3, 2)), at(2, 0, 2, 1), at(0, 0, 1, 0), at(1, 0, 0, 1))},
		{l(2, 3), l(3, 4), dot(l(1), l(0), nil, nil), 8, do(api.DoMac, in(l(2, 4, 3)), at(2, 0, 4, 1, 0), at(0, 0, 3, 0, 1), at(1, 0, 0, 1, 4))},
		{l(3, 2), l(4, 3), dot(l(0), l(1), nil, nil), 8, do(api.DoMac, in(l(2, 4, 3)), at(2, 0, 4, 1, 0), at(0, 0, 1, 0, 2), at(1, 0, 0, 3, 1))},
		{l(2, 3, 5), l(5, 2, 4), dot(l(2), l(0), l(0), l(1)), 24, do(api.DoMac, in(l(2, 3, 4, 5)), at(2, 0, 12, 4, 1, 0), at(0, 0, 15, 5, 0, 1), at(1, 0, 4, 0, 1, 8))},
		// Lo and At in their own order, not in that of the dimensions.
		{l(2, 3, 4, 5), l(5, 4, 3, 2), dot(l(3, 1), l(0, 2), l(2, 0), l(1, 3)), 8, do(api.DoMac, in(l(4, 2, 5, 3)), at(2, 0, 2, 1, 0, 0), at(0, 0, 5, 60, 1, 20), at(1, 0, 6, 1, 24, 2))},
		{l(3, 0), l(0, 2), dot(l(1), l(0), nil, nil), 6, do(api.DoMac, in(l(3, 2, 0)), at(2, 0, 2, 1, 0), at(0, 0, 0, 0, 0), at(1, 0, 0, 0, 0))},
		{l(0, 3), l(3, 2), dot(l(1), l(0), nil, nil), 0, do(api.DoMac, in(l(0, 2, 3)), at(2, 0, 0, 0, 0), at(0, 0, 0, 0, 0), at(1, 0, 0, 1, 2))},
		{l(1, 3), l(3, 1), dot(l(1), l(0), nil, nil), 1, do(api.DoMac, in(l(1, 1, 3)), at(2, 0, 1, 1, 0), at(0, 0, 3, 0, 1), at(1, 0, 0, 1, 1))},
	} {
		first := set(0, in(l(c.size)), at(2, 0, 1))
		wantStmts(t, last(par(0, c.a...), par(1, c.b...), on(c.op, 0, 1)), first, c.second)
	}
	// Both arguments are one node.
	wantStmts(t, last(par(0, 2, 3), on(dot(l(1), l(1), nil, nil), 0, 0)),
		set(0, in(l(4)), at(1, 0, 1)), do(api.DoMac, in(l(2, 2, 3)), at(1, 0, 2, 1, 0), at(0, 0, 3, 0, 1), at(0, 0, 0, 3, 1)))
}

// N4: one behind the other.
func TestN4Join(t *testing.T) {
	wantStmts(t, last(par(0, 4), on(join(0), 0)), do(api.DoCopy, in(l(4)), at(1, 0, 1), at(0, 0, 1)))
	wantStmts(t, last(par(0, 2), par(1, 3), on(join(0), 0, 1, 0)),
		do(api.DoCopy, in(l(2)), at(2, 0, 1), at(0, 0, 1)), do(api.DoCopy, in(l(3)), at(2, 2, 1), at(1, 0, 1)), do(api.DoCopy, in(l(2)), at(2, 5, 1), at(0, 0, 1)))
	wantStmts(t, last(par(0, 2, 3), par(1, 1, 3), on(join(0), 0, 1)),
		do(api.DoCopy, in(l(2, 3)), at(2, 0, 3, 1), at(0, 0, 3, 1)), do(api.DoCopy, in(l(1, 3)), at(2, 6, 3, 1), at(1, 0, 3, 1)))
	wantStmts(t, last(par(0, 2, 3), par(1, 2, 1), on(join(1), 1, 0)),
		do(api.DoCopy, in(l(2, 1)), at(2, 0, 4, 1), at(1, 0, 1, 1)), do(api.DoCopy, in(l(2, 3)), at(2, 1, 4, 1), at(0, 0, 3, 1)))
	wantStmts(t, last(par(0, 2, 2, 1, 3), par(1, 2, 1, 1, 3), on(join(1), 0, 1)),
		do(api.DoCopy, in(l(2, 2, 1, 3)), at(2, 0, 9, 3, 3, 1), at(0, 0, 6, 3, 3, 1)), do(api.DoCopy, in(l(2, 1, 1, 3)), at(2, 6, 9, 3, 3, 1), at(1, 0, 3, 3, 3, 1)))
	// Some have no entries, or none has.
	wantStmts(t, last(par(0, 0, 3), par(1, 2, 3), on(join(0), 1, 0, 1)),
		do(api.DoCopy, in(l(2, 3)), at(2, 0, 3, 1), at(1, 0, 3, 1)), do(api.DoCopy, in(l(0, 3)), at(2, 6, 3, 1), at(0, 0, 0, 0)), do(api.DoCopy, in(l(2, 3)), at(2, 6, 3, 1), at(1, 0, 3, 1)))
	wantStmts(t, last(par(0, 2, 0), par(1, 3, 0), on(join(0), 0, 1)),
		do(api.DoCopy, in(l(2, 0)), at(2, 0, 0, 0), at(0, 0, 0, 0)), do(api.DoCopy, in(l(3, 0)), at(2, 0, 0, 0), at(1, 0, 0, 0)))
}

// wantSeen: a node that is a view of a parameter has one statement: over these dimensions, from this place on, by these steps.
func wantSeen(t *testing.T, dims []int, op api.Op, box, put []int, start int, get ...int) {
	t.Helper()
	wantStmts(t, last(par(0, dims...), on(op, 0)), do(api.DoCopy, in(box), at(1, 0, put...), at(0, start, get...)))
}

// N4: views of the argument.
func TestN4Views(t *testing.T) {
	wantSeen(t, nil, spread(nil), nil, nil, 0)
	wantSeen(t, nil, spread(l(2, 3)), l(2, 3), l(3, 1), 0, 0, 0)
	wantSeen(t, l(3), spread(l(2, 3), 1), l(2, 3), l(3, 1), 0, 0, 1)
	wantSeen(t, l(2), spread(l(2, 3), 0), l(2, 3), l(3, 1), 0, 1, 0)
	wantSeen(t, l(2, 3), spread(l(2, 4, 3, 1), 0, 2), l(2, 4, 3, 1), l(12, 3, 1, 1), 0, 3, 0, 1, 0)
	wantSeen(t, l(2), spread(l(2, 0), 0), l(2, 0), l(0, 0), 0, 1, 0)
	wantSeen(t, l(0), spread(l(2, 0), 1), l(2, 0), l(0, 0), 0, 0, 0)
	wantSeen(t, l(1, 3), spread(l(1, 2, 3), 0, 2), l(1, 2, 3), l(6, 3, 1), 0, 3, 0, 1)

	wantSeen(t, nil, turn(), nil, nil, 0)
	wantSeen(t, l(4), turn(0), l(4), l(1), 0, 1)
	wantSeen(t, l(2, 3), turn(1, 0), l(3, 2), l(2, 1), 0, 1, 3)
	wantSeen(t, l(2, 3, 4), turn(2, 0, 1), l(4, 2, 3), l(6, 3, 1), 0, 1, 12, 4)
	wantSeen(t, l(2, 1, 3, 2), turn(3, 2, 1, 0), l(2, 3, 1, 2), l(6, 2, 2, 1), 0, 1, 2, 6, 6)
	wantSeen(t, l(2, 0), turn(1, 0), l(0, 2), l(0, 0), 0, 0, 0)

	wantSeen(t, nil, slice(nil, nil, nil), nil, nil, 0)
	wantSeen(t, l(7), slice(l(1), l(6), l(2)), l(3), l(1), 1, 2)
	wantSeen(t, l(7), slice(l(0), l(7), l(1)), l(7), l(1), 0, 1)
	wantSeen(t, l(7), slice(l(3), l(3), l(5)), l(0), l(0), 3, 5)
	wantSeen(t, l(7), slice(l(7), l(7), l(1)), l(0), l(0), 7, 1)
	wantSeen(t, l(3, 4), slice(l(1, 2), l(3, 4), l(1, 3)), l(2, 1), l(1, 1), 6, 4, 3)
	wantSeen(t, l(2, 3, 1, 2), slice(l(1, 0, 0, 0), l(2, 3, 1, 2), l(4, 2, 7, 1)), l(1, 2, 1, 2), l(4, 2, 2, 1), 6, 24, 4, 14, 1)
	wantSeen(t, l(0, 3), slice(l(0, 1), l(0, 3), l(1, 1)), l(0, 2), l(0, 0), 0, 0, 0)

	wantSeen(t, nil, flip(), nil, nil, 0)
	wantSeen(t, l(4), flip(0), l(4), l(1), 3, -1)
	wantSeen(t, l(4), flip(), l(4), l(1), 0, 1)
	wantSeen(t, l(2, 3), flip(0), l(2, 3), l(3, 1), 3, -3, 1)
	wantSeen(t, l(2, 3), flip(0, 1), l(2, 3), l(3, 1), 5, -3, -1)
	wantSeen(t, l(2, 3, 1, 2), flip(1, 2), l(2, 3, 1, 2), l(6, 2, 2, 1), 4, 6, -2, -2, 1)
	wantSeen(t, l(1), flip(0), l(1), l(1), 0, -1)
	wantSeen(t, l(0, 3), flip(0, 1), l(0, 3), l(0, 0), 0, 0, 0)
}

// N4: what is given, parameters and nodes, once, twice, or nothing at all.
func TestN4Outs(t *testing.T) {
	two, add := par(0, 2), node(api.Add, 0, 1)
	other := par(1, 2)
	wantLower(t, giving(nil), api.Lowered{})
	wantLower(t, giving(nil, two, other, add), api.Lowered{Nest: over(l(2, 2)), Ins: l(0, 1)})
	wantLower(t, giving(l(1, 0, 1), two, other, add), api.Lowered{Nest: over(l(2, 2)), Ins: l(0, 1), Outs: l(1, 0, 1)})
	sum := flat(api.DoAdd, 2, 0, 2, 0, 1)
	wantLower(t, giving(l(2, 0, 2), two, other, add), api.Lowered{Nest: over(l(2, 2, 2), sum), Ins: l(0, 1), Outs: l(2, 0, 2)})
	wantLower(t, giving(l(0), fill(3, 2)), api.Lowered{Nest: over(l(2), set(3, in(l(2)), at(0, 0, 1))), Outs: l(0)})
	// A parameter is never put into, however large it is.
	wantLower(t, giving(l(0), par(0, 4, 4, 4, 4, 4, 4)), api.Lowered{Nest: over(l(4096)), Ins: l(0), Outs: l(0)})
	wantLower(t, giving(l(0, 1), par(0, 16, 4096), par(1, 65)), api.Lowered{Nest: over(l(65536, 65)), Ins: l(0, 1), Outs: l(0, 1)})
}

// N4: nodes that are used twice, one behind the other, and by several.
func TestN4UsedTwice(t *testing.T) {
	g := giving(l(3, 1), par(0, 2), node(api.Mul, 0, 0), node(api.Add, 1, 0), node(api.Sub, 2, 1))
	wantLower(t, g, api.Lowered{Ins: l(0), Outs: l(3, 1), Nest: over(l(2, 2, 2, 2), flat(api.DoMul, 2, 0, 1, 0, 0), flat(api.DoAdd, 2, 0, 2, 1, 0), flat(api.DoSub, 2, 0, 3, 2, 1))})
}

// N4: it is the tidy graph that is lowered.
func TestN4NotTidy(t *testing.T) {
	three := set(3, in(l(2)), at(1, 0, 1))
	add := flat(api.DoAdd, 2, 0, 2, 0, 1)
	want := api.Lowered{Ins: l(0), Outs: l(2, 2), Nest: over(l(2, 2, 2), three, add)}
	wantLower(t, giving(l(2, 2), par(0, 2), fill(3, 2), node(api.Add, 0, 1)), want)
	// Nodes that nobody needs, and nodes that are alike.
	wantLower(t, giving(l(5, 6), par(0, 2), fill(9, 7), fill(3, 2), node(api.Mul, 0, 2), fill(3, 2), node(api.Add, 0, 2), node(api.Add, 0, 4)), want)
	// Fields that mean nothing.
	odd := api.Node{Op: api.Op{Kind: api.Add, Dims: l(9), At: l(8), Lo: l(7), Hi: l(6), Step: l(5), Value: 4}, Args: l(0, 1)}
	wantLower(t, giving(l(2, 2), par(0, 2), fill(3, 2), odd), want)
	// The order of what is needed, not that in which it stands.
	wantLower(t, giving(l(3), par(0, 2), fill(4, 2), node(api.Mul, 0, 0), node(api.Add, 2, 1)),
		api.Lowered{Ins: l(0), Outs: l(3), Nest: over(l(2, 2, 2, 2), flat(api.DoMul, 2, 0, 1, 0, 0), set(4, in(l(2)), at(2, 0, 1)), flat(api.DoAdd, 2, 0, 3, 1, 2))})
	// What nobody needs may be what can't be lowered.
	take, put := node(api.Take, 0, 0), on(api.Op{Kind: api.Put, Dims: l(3)}, 0, 0)
	wantLower(t, giving(l(3, 3), par(0, 2), take, fill(3, 2), node(api.Add, 0, 2), put, fill(1, 4096, 2), fill(1), on(spread(l(1, 1, 1, 1, 1)), 6)), want)
}

// E4: what is wrong with the graph is told first of all.
func TestN4WrongGraphs(t *testing.T) {
	take := node(api.Take, 0, 0)
	wantNoLower(t, giving(l(0), make([]api.Node, 4097)...), api.ErrMuch)
	wantNoLower(t, giving(l(1), par(0, 2), take, node(api.Add, 0, 3)), api.ErrOrder)
	wantNoLower(t, giving(l(1), par(0, 2), take, par(2, 2)), api.ErrForm)
	wantNoLower(t, giving(l(1), par(0, 2), take, node(api.Add, 0)), api.ErrMany)
	wantNoLower(t, giving(l(1), par(0, 2), take, node(20, 0)), api.ErrKind)
	wantNoLower(t, giving(l(1), par(0, 2), take, fill(0, 1, 1, 1, 1, 1, 1, 1)), api.ErrRank)
	wantNoLower(t, giving(l(1), par(0, 2), take, fill(0, -1)), api.ErrRange)
	wantNoLower(t, giving(l(1), par(0, 2), take, fill(0, 3), node(api.Add, 0, 2)), api.ErrShape)
	wantNoLower(t, giving(l(2), par(0, 2), take), api.ErrRange)
	wantNoLower(t, giving(l(-1), par(0, 2), take), api.ErrRange)
}

// N4: Take and Put can't be lowered, wherever they stand, and that is told ahead of what is wrong with the nest.
func TestN4TakeAndPut(t *testing.T) {
	for _, n := range []api.Node{node(api.Take, 0, 1), on(api.Op{Kind: api.Put, Dims: l(4)}, 0, 1)} {
		wantNoLower(t, giving(l(2), par(0, 2), par(1, 2), n), api.ErrKind)
		wantNoLower(t, giving(l(3), par(0, 2), par(1, 2), n, on(sum(0), 2)), api.ErrKind)
		deep := on(spread(l(2, 1, 1, 1, 1), 0), 0)
		wantNoLower(t, giving(l(3, 2), par(0, 2), par(1, 2), n, deep), api.ErrKind)
		wantNoLower(t, giving(l(2, 3), par(0, 2), par(1, 2), deep, n), api.ErrKind)
		wantNoLower(t, giving(l(2), par(0, 2), par(1, 2), deep, n), api.ErrRank)
		nodes := []api.Node{par(0, 2), par(1, 2)}
		var outs []int
		for k := range 300 {
			nodes, outs = append(nodes, fill(int64(k))), append(outs, k+2)
		}
		wantNoLower(t, giving(outs, nodes...), api.ErrMany)
		wantNoLower(t, giving(append(outs, 302), append(nodes, n)...), api.ErrKind)
	}
}

// N4: as many statements as there may be, and one more.
func TestN4HowManyStatements(t *testing.T) {
	fills := func(many int) api.Graph {
		var g api.Graph
		for k := range many {
			g.Nodes, g.Outs = append(g.Nodes, fill(int64(k), 1+k%3)), append(g.Outs, k)
		}
		return g
	}
	for _, many := range l(255, 256) {
		wantWorth(t, fills(many))
	}
	for _, many := range l(257, 258, 4096) {
		wantNoLower(t, fills(many), api.ErrMany)
	}
	chain := func(sums int) api.Graph {
		g := giving(l(sums), par(0, 3))
		for k := range sums {
			g.Nodes = append(g.Nodes, on(sum(), k))
		}
		return g
	}
	wantWorth(t, chain(128))
	wantNoLower(t, chain(129), api.ErrMany)
	joined := func(args int) api.Graph {
		return last(par(0, 1, 2), on(join(0), make([]int, args)...))
	}
	wantWorth(t, joined(256))
	wantNoLower(t, joined(257), api.ErrMany)
	// Arrays without entries can be joined without end.
	wantNoLower(t, last(par(0, 0), on(join(0), make([]int, 1<<20)...)), api.ErrMany)
	// Too many are told ahead of what is wrong with one of them, be it the first.
	g := fills(256)
	g.Nodes[0] = fill(1, 4096, 2)
	wantNoLower(t, g, api.ErrRange)
	g.Nodes, g.Outs = append(g.Nodes, fill(-1)), append(g.Outs, 256)
	wantNoLower(t, g, api.ErrMany)
}

// N4: more numbers, or more dimensions, than points can have.
func TestN4TooMuchForPoints(t *testing.T) {
	ones := func(rank int) []int { return slices.Repeat(l(1), rank) }
	none := func(rank int) []int { return make([]int, rank) }
	for rank := range 7 {
		dims, every := ones(rank), make([]int, rank)
		for k := range every {
			every[k] = k
		}
		for _, op := range []api.Op{spread(dims), spread(dims, every...), sum(every...), sum(), turn(every...), slice(none(rank), dims, dims), pad(none(rank), none(rank), dims), flip(every...), join(max(rank-1, 0)), dot(nil, nil, nil, nil), reform(dims...)} {
			from := dims
			if op.Kind == api.Spread && len(op.At) == 0 {
				from = nil
			}
			g := last(par(0, from...), on(op, 0))
			if op.Kind == api.Dot {
				g = last(par(0, from...), par(1), on(op, 0, 1))
			}
			switch {
			case op.Kind == api.Join && rank == 0:
				wantNoLower(t, g, api.ErrShape)
			case rank <= 4 || op.Kind == api.Reform:
				wantWorth(t, g)
			default:
				wantNoLower(t, g, api.ErrRank)
			}
		}
	}
	// Flat ones: the size is bounded.
	for _, dims := range [][]int{l(4096), l(64, 64), l(4, 4, 4, 4, 4, 4)} {
		wantWorth(t, last(fill(3, dims...)))
		wantWorth(t, last(par(0, dims...), node(api.Mul, 0, 0)))
		wantWorth(t, last(par(0, dims...), on(reform(16, 256), 0)))
	}
	for _, dims := range [][]int{l(4096, 2), l(17, 241), l(5, 4, 4, 4, 4, 4), l(16, 4096)} {
		wantNoLower(t, last(fill(3, dims...)), api.ErrRange)
		wantNoLower(t, last(par(0, dims...), node(api.Mul, 0, 0)), api.ErrRange)
		wantNoLower(t, last(par(0, dims...), on(reform(append(dims[1:], dims[0])...), 0)), api.ErrRange)
	}
	// Others: the product is.
	wantWorth(t, last(par(0, 64, 64), on(turn(1, 0), 0)))
	wantNoLower(t, last(par(0, 65, 64), on(turn(1, 0), 0)), api.ErrMuch)
	wantWorth(t, last(par(0, 4096), on(flip(0), 0)))
	wantWorth(t, last(par(0, 64, 64), on(sum(0), 0)))
	wantNoLower(t, last(par(0, 64, 65), on(sum(0), 0)), api.ErrMuch)
	wantNoLower(t, last(par(0, 2), on(spread(l(2, 4096), 0), 0)), api.ErrMuch)
	wantWorth(t, last(par(0, 16, 16), par(1, 16, 16), on(dot(l(1), l(0), nil, nil), 0, 1)))
	wantNoLower(t, last(par(0, 16, 16), par(1, 16, 17), on(dot(l(1), l(0), nil, nil), 0, 1)), api.ErrMuch)
	wantWorth(t, last(par(0, 64, 65), on(slice(l(0, 0), l(64, 64), l(1, 1)), 0)))
	// A part that is small enough of what is too large; one that is too large, of which the noughts are told first.
	wantWorth(t, last(par(0, 16, 4096), on(slice(l(7, 1), l(8, 4096), l(1, 1)), 0)))
	wantNoLower(t, last(par(0, 65, 64), on(pad(l(0, 0), l(0, 0), l(1, 1)), 0)), api.ErrRange)
	wantNoLower(t, last(par(0, 65, 64), on(sum(), 0)), api.ErrRange)
	// A Join is as large as it may be, as long as its arguments are not too large.
	wantWorth(t, last(par(0, 64, 64), par(1, 1, 64), on(join(0), 0, 1, 0)))
	wantNoLower(t, last(par(0, 65, 64), par(1, 1, 64), on(join(0), 1, 0)), api.ErrMuch)
}

// N4: a Dot may have more dimensions than an array.
func TestN4DotOfManyDimensions(t *testing.T) {
	ones := func(rank int) []int { return slices.Repeat(l(1), rank) }
	for a := range 7 {
		for b := range 7 {
			for summed := range min(a, b) + 1 {
				var at []int
				for k := range summed {
					at = append(at, k)
				}
				g := last(par(0, ones(a)...), par(1, ones(b)...), on(dot(at, at, nil, nil), 0, 1))
				switch rank := a + b - summed; {
				case a+b-2*summed > 6:
					wantNoLower(t, g, api.ErrRank)
				case rank <= 4:
					wantWorth(t, g)
				default:
					wantNoLower(t, g, api.ErrRank)
				}
			}
		}
	}
	// Sums over more indices than an array can have.
	big := l(16, 4096)
	wantNoLower(t, last(par(0, big...), par(1, big...), on(dot(l(0, 1), l(0, 1), nil, nil), 0, 1)), api.ErrMuch)
	wantNoLower(t, last(par(0, append(big, 1)...), par(1, append(big, 1)...), on(dot(l(0, 1), l(0, 1), nil, nil), 0, 1)), api.ErrMuch)
	wantNoLower(t, last(par(0, 1, 1, 1, 1, 1, 4096), par(1, 1, 1, 1, 1, 1, 4096), on(dot(l(0, 1, 2, 3, 4), l(0, 1, 2, 3, 4), l(5), l(5)), 0, 1)), api.ErrRank)
}

// N4: steps beyond what a row may have.
func TestN4FarSteps(t *testing.T) {
	// The first step of 1, 4096 is 4096: times 256 that is 2^20.
	for _, c := range []struct {
		step int
		want api.Errno
	}{{256, api.OK}, {257, api.ErrRange}, {4096, api.ErrRange}} {
		for _, op := range []api.Op{slice(l(0, 0), l(1, 4096), l(c.step, 1)), pad(l(0, 0), l(0, 0), l(c.step, 1))} {
			g := last(par(0, 1, 4096), on(op, 0))
			if c.want == api.OK {
				wantWorth(t, g)
			} else {
				wantNoLower(t, g, c.want)
			}
		}
	}
}

// N4: dice-thrown graphs, against its words: each kind by itself, and all together.
func TestN4Dice(t *testing.T) {
	d := thrown(5)
	kinds := l(api.Fill, api.Add, api.Sub, api.Mul, api.Max, api.Less, api.Pick, api.Spread, api.Sum, api.Turn, api.Reform, api.Cut, api.Pad, api.Flip, api.Dot, api.Join)
	fine, errs, seen := 0, map[api.Errno]int{}, map[int]int{}
	for round := range 4000 {
		g := d.graph(4+d.IntN(12), kinds[round%16])
		if round%2 == 0 {
			g = d.graph(4+d.IntN(12), append(kinds, kinds[round/2%16])...)
		}
		tidy, _ := graph.Tidy(g)
		dims, err := graph.Dims(tidy)
		if err != api.OK {
			t.Fatalf("%v: %d", g, err)
		}
		want := lowerByHand(tidy, dims)
		if err := wrongByHand(want.Nest); err != api.OK {
			errs[err]++
			wantNoLower(t, g, err)
			continue
		}
		fine++
		for _, n := range tidy.Nodes {
			seen[n.Op.Kind]++
		}
		wantLower(t, g, want)
		if t.Failed() {
			return
		}
	}
	if fine < 1500 || len(seen) != 17 || errs[api.ErrRank] < 50 {
		t.Errorf("%d were right, of these kinds: %v; these were wrong: %v", fine, seen, errs)
	}
}

// N4: dice-thrown graphs with Take among others.
func TestN4DiceTake(t *testing.T) {
	d := thrown(6)
	told := map[api.Errno]int{}
	for range 1000 {
		g := d.graph(4+d.IntN(8), api.Take, api.Add, api.Sum, api.Join, api.Spread, api.Dot)
		tidy, _ := graph.Tidy(g)
		takes := slices.ContainsFunc(tidy.Nodes, func(n api.Node) bool { return n.Op.Kind == api.Take })
		_, err := nest.Lower(g)
		told[err]++
		if takes != (err == api.ErrKind) {
			t.Fatalf("%v: %d comes", g, err)
		}
	}
	if told[api.OK] < 50 || told[api.ErrKind] < 50 {
		t.Errorf("just these came: %v", told)
	}
}
