package nest_test

import (
	"fmt"
	"slices"
	"sync"
	"testing"

	"adjoint/api"
	"adjoint/nest"
)

// roomy is a list with room behind it, in which something stands.
func roomy[T any](list []T, with T) []T {
	return append(slices.Clone(list), with, with, with)[:len(list)]
}

// whole shows a list with the room behind it.
func whole[T any](list []T) string { return fmt.Sprint(list[:cap(list)]) }

// spoil writes over a list, its spare room too.
func spoil[T any](list []T, with T) {
	list = list[:cap(list)]
	for k := range list {
		list[k] = with
	}
}

// roomyNest is a nest of which every list has room behind it.
func roomyNest(n api.Nest) api.Nest {
	roomyRow := func(r *api.Row) { r.Coef = roomy(r.Coef, -7) }
	out := api.Nest{Sizes: roomy(n.Sizes, -7), Stmts: roomy(n.Stmts, api.Stmt{Do: -7})}
	for k := range out.Stmts {
		s := &out.Stmts[k]
		s.Over = in(roomy(s.Over.Box, -7), roomy(s.Over.Rows, row(-7))...)
		for i := range s.Over.Rows {
			roomyRow(&s.Over.Rows[i])
		}
		s.Get = roomy(s.Get, at(-7, -7))
		for _, a := range places(s) {
			roomyRow(&a.At)
		}
	}
	return out
}

// numberLists are all lists of numbers in a nest.
func numberLists(n api.Nest) [][]int {
	out := [][]int{n.Sizes}
	for _, s := range n.Stmts {
		out = append(out, s.Over.Box)
		for _, r := range s.Over.Rows {
			out = append(out, r.Coef)
		}
		for _, a := range places(&s) {
			out = append(out, a.At.Coef)
		}
	}
	return out
}

// wholeNest shows a nest with the room behind each list.
func wholeNest(n api.Nest) string {
	out := whole(n.Stmts)
	for _, list := range numberLists(n) {
		out += whole(list)
	}
	for _, s := range n.Stmts {
		out += whole(s.Get) + whole(s.Over.Rows)
	}
	return out
}

// some are right nests.
func some() []api.Nest {
	d := thrown(7)
	out := []api.Nest{over(nil), over(l(0)), over(l(3), set(4, in(l(2), row(-1, 1)), at(0, 0, 1)))}
	for range 40 {
		out = append(out, d.nest())
	}
	return out
}

// graphs are right ones that can be lowered.
func graphs() []api.Graph {
	d := thrown(8)
	out := []api.Graph{
		giving(nil), last(par(0, 2)), last(fill(3)),
		giving(l(4, 0, 4), par(0, 2, 3), par(1, 3, 2), on(dot(l(1), l(0), nil, nil), 0, 1), on(sum(0), 2), on(join(0), 3, 3)),
		last(par(0, 2, 3), on(pad(l(1, 0), l(0, 1), l(2, 1)), 0), on(flip(1), 1), on(turn(1, 0), 2), on(slice(l(0, 0), l(2, 2), l(1, 1)), 3), on(spread(l(2, 2, 2), 0, 2), 4), on(reform(8), 5), node(api.Pick, 6, 6, 6)),
	}
	for len(out) < 60 {
		g := d.graph(10, api.Fill, api.Add, api.Less, api.Pick, api.Spread, api.Sum, api.Turn, api.Reform, api.Cut, api.Pad, api.Flip, api.Dot, api.Join)
		if _, err := nest.Lower(g); err == api.OK {
			out = append(out, g)
		}
	}
	return out
}

// E2: what is handed in to Wrong and Run is only read, the room behind it too; what is answered shares nothing with it.
func TestE2Run(t *testing.T) {
	d := thrown(9)
	for _, n := range some() {
		n := roomyNest(n)
		var given [][]int64
		for _, size := range n.Sizes {
			given = append(given, roomy(d.numbers(size), -7))
		}
		given = roomy(given, w(-7))
		shown := func() string {
			out := wholeNest(n) + whole(given)
			for _, numbers := range given {
				out += whole(numbers)
			}
			return out
		}
		was := shown()
		want := runByHand(n, given)
		got, err := nest.Run(n, given)
		if err != api.OK || !same(got, want) || nest.Wrong(n) != api.OK {
			t.Errorf("%s: %v, %d comes, not %v", show(n), got, err, want)
		}
		if now := shown(); now != was {
			t.Errorf("%s was handed in, and %s came back", was, now)
		}
		for k, numbers := range got {
			spoil(numbers, int64(1000+k))
		}
		for k, numbers := range got {
			if slices.ContainsFunc(numbers[:cap(numbers)], func(n int64) bool { return n != int64(1000+k) }) {
				t.Errorf("%s: array %d shares room with another one", show(n), k)
			}
		}
		spoil(got, w(5))
		if now := shown(); now != was {
			t.Errorf("%s was handed in, and changes to %s with what is answered", was, now)
		}
	}
	// One array stands for two: it is one that is handed in twice, and answered as two.
	both := w(1, 2)
	wantRun(t, over(l(2, 2), set(9, in(nil), at(0, 0))), mem(both, both), w(9, 2), w(1, 2))
	long := w(1, 2, 3, 4)
	wantRun(t, over(l(2, 2), set(9, in(l(4)), at(0, 0, 1))), mem(long[:2], long[2:]), w(9, 9), w(3, 4))
	if !slices.Equal(long, w(1, 2, 3, 4)) {
		t.Errorf("%v is left", long)
	}
}

// roomyGraph is a graph of which every list has room behind it.
func roomyGraph(g api.Graph) api.Graph {
	out := api.Graph{Nodes: roomy(g.Nodes, node(-7)), Outs: roomy(g.Outs, -7)}
	for k, n := range out.Nodes {
		op := n.Op
		op.Dims, op.At, op.Lo, op.Hi, op.Step = roomy(op.Dims, -7), roomy(op.At, -7), roomy(op.Lo, -7), roomy(op.Hi, -7), roomy(op.Step, -7)
		out.Nodes[k] = api.Node{Op: op, Args: roomy(n.Args, -7)}
	}
	return out
}

// graphLists are all lists of numbers in a graph.
func graphLists(g api.Graph) [][]int {
	out := [][]int{g.Outs}
	for _, n := range g.Nodes {
		out = append(out, n.Op.Dims, n.Op.At, n.Op.Lo, n.Op.Hi, n.Op.Step, n.Args)
	}
	return out
}

// wholeGraph shows a graph with the room behind each list.
func wholeGraph(g api.Graph) string {
	out := whole(g.Nodes)
	for _, list := range graphLists(g) {
		out += whole(list)
	}
	return out
}

// E2: what is handed in to Lower is only read, and nothing of it is kept; no two lists of what is answered share room.
func TestE2Lower(t *testing.T) {
	for _, g := range graphs() {
		g := roomyGraph(g)
		was := wholeGraph(g)
		low, err := nest.Lower(g)
		if now := wholeGraph(g); err != api.OK || now != was {
			t.Errorf("%d comes; %s was handed in, and %s came back", err, was, now)
		}
		shown := showLowered(low)
		for _, list := range graphLists(g) {
			spoil(list, -9)
		}
		if now := showLowered(low); now != shown {
			t.Errorf("%s becomes %s with what was handed in", shown, now)
		}
		lists := append(numberLists(low.Nest), low.Ins, low.Outs)
		for k, list := range lists {
			spoil(list, -100-k)
		}
		for k, list := range lists {
			if slices.ContainsFunc(list[:cap(list)], func(n int) bool { return n != -100-k }) {
				t.Errorf("%s: list %d shares room with another one", shown, k)
			}
		}
		for k, s := range low.Nest.Stmts {
			spoil(s.Get, at(k, k))
		}
		for k, s := range low.Nest.Stmts {
			for _, a := range s.Get[:cap(s.Get)] {
				if a.Array != k || len(a.At.Coef) > 0 {
					t.Errorf("%s: what statement %d gets shares room with another one", shown, k)
				}
			}
		}
	}
}

// E3: nil and a list without entries are the same.
func TestE3NilAndEmpty(t *testing.T) {
	none, spare := []int{}, make([]int, 0, 3)
	for _, some := range [][]int{nil, none, spare} {
		for _, rows := range [][]api.Row{nil, {}, {{Coef: some}}} {
			for _, get := range [][]api.Access{nil, {}, make([]api.Access, 0, 3)} {
				s := api.Stmt{Over: in(some, rows...), Do: api.DoSet, Value: 4, Put: at(0, 0, some...), Get: get}
				wantRun(t, over(l(1), s), mem(w(9)), w(4))
			}
			s := do(api.DoMore, in(some, rows...), at(0, 0, some...), at(1, 0, some...))
			wantRun(t, over(l(1, 0), s), mem(w(9), nil), w(9), nil)
			wantRun(t, over(l(1, 0), s), mem(w(9), w()), w(9), nil)
		}
		wantRun(t, api.Nest{Sizes: some, Stmts: []api.Stmt{}}, mem())
		wantRun(t, api.Nest{Sizes: some}, nil)
		wantLower(t, giving(some, fill(1, some...)), api.Lowered{})
		wantStmts(t, last(api.Node{Op: api.Op{Kind: api.Fill, Dims: some, At: some, Lo: some}, Args: some}), set(0, in(l(1)), at(0, 0, 1)))
		wantStmts(t, last(par(0, some...), on(pad(some, some, some), 0)), set(0, in(l(1)), at(1, 0, 1)), do(api.DoCopy, in(nil), at(1, 0), at(0, 0)))
	}
}

// E1, E4: whatever is handed in, nothing panics, and with an error there is nothing else.
func TestE1WhateverIsGiven(t *testing.T) {
	d := thrown(1)
	odd := func() int {
		if d.IntN(8) > 0 {
			return d.of(0, 0, 1, 1, 2, 3, -1)
		}
		return d.of(least, -far-1, -far, far, far+1, 64, 4095, 4096, 4097, 65536, 65537, 1<<32, most)
	}
	list := func(longest int) []int {
		out := make([]int, d.IntN(longest+1))
		for k := range out {
			out[k] = odd()
		}
		return out
	}
	over := func(numbers int) api.Row {
		if d.IntN(10) == 0 {
			return row(odd(), list(3)...)
		}
		return row(odd(), append(list(3), 1, 0, 2)[:numbers]...)
	}
	fine := 0
	for range 20000 {
		n := api.Nest{Sizes: append(list(2), 3, 1)}
		for range d.of(0, 1, 1, 2) {
			s := api.Stmt{Over: in(list(2)), Do: d.of(1, 2, 3, 8, 9, 10, odd()), Value: d.number()}
			numbers := len(s.Over.Box)
			s.Put = api.Access{Array: odd(), At: over(numbers)}
			for range d.of(many(s.Do), many(s.Do), 0, 1, 2, 3) {
				s.Get = append(s.Get, api.Access{Array: odd(), At: over(numbers)})
			}
			if d.IntN(4) == 0 {
				s.Over.Rows = append(s.Over.Rows, over(numbers))
			}
			n.Stmts = append(n.Stmts, s)
		}
		want := wrongByHand(n)
		if got := nest.Wrong(n); got != want {
			t.Fatalf("%s: %d comes, not %d", show(n), got, want)
		}
		given := fitting(n)
		if want != api.OK {
			wantNoRun(t, n, given, want)
			continue
		}
		if len(n.Stmts) > 0 {
			fine++
		}
		wantRun(t, n, given, runByHand(n, given)...)
	}
	if fine < 300 {
		t.Errorf("%d were right", fine)
	}
	for range 20000 {
		g := api.Graph{Outs: list(2)}
		for k := range d.IntN(5) {
			op := api.Op{Kind: d.of(1, 1, 2, 3, 8, 9, 10, 11, 12, 13, 14, 15, 16, 17, 18, 19, odd()), Dims: list(3), At: list(2), Lo: list(2), Hi: list(2), Step: list(2)}
			if op.Kind == api.Param && d.IntN(8) > 0 {
				op.At = l(k)
			}
			g.Nodes = append(g.Nodes, on(op, list(2)...))
		}
		if low, err := nest.Lower(g); err != api.OK {
			wantNoLower(t, g, err)
		} else if got := nest.Wrong(low.Nest); got != api.OK {
			t.Fatalf("%v is lowered to what is wrong: %d", g, got)
		}
	}
}

// E1: several calls do not know of one another.
func TestE1AtTheSameTime(t *testing.T) {
	g := graphs()[4]
	n := some()[20]
	all := func() string {
		low, err := nest.Lower(g)
		ran, no := nest.Run(n, fitting(n))
		done, none := nest.Run(low.Nest, fitting(low.Nest))
		return fmt.Sprint(low, err, ran, no, done, none, nest.Wrong(n))
	}
	want := all()
	got := make([]string, 8)
	var group sync.WaitGroup
	for k := range got {
		group.Go(func() { got[k] = all() })
	}
	group.Wait()
	for _, s := range got {
		if s != want {
			t.Errorf("%s comes at the same time, not %s", s, want)
		}
	}
}
