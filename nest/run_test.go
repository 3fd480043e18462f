package nest_test

import (
	"fmt"
	"slices"
	"testing"

	"adjoint/api"
	"adjoint/nest"
)

// wantDeed: of these numbers, and of what is there, a kind of statement puts this.
func wantDeed(t *testing.T, what int, there, want int64, got ...int64) {
	t.Helper()
	s := do(what, in(nil), at(0, 0))
	given := mem(w(there))
	sizes := l(1)
	for k, n := range got {
		s.Get = append(s.Get, at(k+1, 0))
		given = append(given, w(n))
		sizes = append(sizes, 1)
	}
	s.Value = want
	if what != api.DoSet {
		// Value means nothing there.
		s.Value = want + 77
	}
	wantRun(t, over(sizes, s), given, append(mem(w(want)), given[1:]...)...)
}

// N1: what each kind puts, at 0, below 0, and where numbers wrap round.
func TestN1EachDeed(t *testing.T) {
	for _, n := range w(low, -7, -1, 0, 1, 7, top) {
		for _, there := range w(low, -1, 0, 5, top) {
			wantDeed(t, api.DoSet, there, n)
			wantDeed(t, api.DoCopy, there, n, n)
		}
	}
	for _, c := range []struct {
		what int
		want int64
		got  []int64
	}{
		{api.DoAdd, 5, w(2, 3)}, {api.DoAdd, -1, w(2, -3)}, {api.DoAdd, low, w(top, 1)}, {api.DoAdd, top, w(low, -1)}, {api.DoAdd, 0, w(low, low)}, {api.DoAdd, -2, w(top, top)},
		{api.DoSub, -1, w(2, 3)}, {api.DoSub, 5, w(2, -3)}, {api.DoSub, top, w(low, 1)}, {api.DoSub, low, w(0, low)}, {api.DoSub, low, w(top, -1)}, {api.DoSub, 0, w(low, low)},
		{api.DoMul, 6, w(2, 3)}, {api.DoMul, -6, w(2, -3)}, {api.DoMul, 0, w(0, low)}, {api.DoMul, 0, w(1<<32, 1<<32)}, {api.DoMul, low, w(low, -1)}, {api.DoMul, 1, w(top, top)}, {api.DoMul, low, w(1<<31, 1<<32)},
		{api.DoMax, 3, w(2, 3)}, {api.DoMax, 3, w(3, 2)}, {api.DoMax, 2, w(2, -3)}, {api.DoMax, 0, w(0, low)}, {api.DoMax, top, w(low, top)}, {api.DoMax, -1, w(-1, -2)}, {api.DoMax, low, w(low, low)},
		{api.DoLess, 1, w(2, 3)}, {api.DoLess, 0, w(3, 2)}, {api.DoLess, 0, w(2, 2)}, {api.DoLess, 1, w(-1, 0)}, {api.DoLess, 0, w(0, -1)}, {api.DoLess, 1, w(low, top)}, {api.DoLess, 0, w(top, low)}, {api.DoLess, 1, w(low, low+1)}, {api.DoLess, 1, w(top-1, top)},
		{api.DoPick, 5, w(1, 5, 6)}, {api.DoPick, 6, w(0, 5, 6)}, {api.DoPick, 5, w(-1, 5, 6)}, {api.DoPick, 5, w(low, 5, 6)}, {api.DoPick, 5, w(2, 5, 6)}, {api.DoPick, low, w(top, low, 6)}, {api.DoPick, 0, w(1<<32, 0, 6)},
	} {
		for _, there := range w(low, -1, 0, 5, top) {
			wantDeed(t, c.what, there, c.want, c.got...)
		}
	}
	for _, c := range []struct {
		what        int
		there, want int64
		got         []int64
	}{
		{api.DoMore, 4, 7, w(3)}, {api.DoMore, 0, 0, w(0)}, {api.DoMore, 4, 1, w(-3)}, {api.DoMore, top, low, w(1)}, {api.DoMore, low, top, w(-1)}, {api.DoMore, low, 0, w(low)},
		{api.DoMac, 4, 10, w(2, 3)}, {api.DoMac, 4, -2, w(2, -3)}, {api.DoMac, 4, 4, w(0, low)}, {api.DoMac, top, low, w(1, 1)}, {api.DoMac, 5, 5, w(1<<32, 1<<32)}, {api.DoMac, low, 0, w(low, -1)}, {api.DoMac, -1, 0, w(top, top)},
	} {
		wantDeed(t, c.what, c.there, c.want, c.got...)
	}
}

// N1: all kinds of all numbers at the edges, against numbers that have no end.
func TestN1EachDeedAtTheEdges(t *testing.T) {
	edges := w(low, low+1, -1<<33+5, -3, -1, 0, 1, 2, 1<<32, 3037000500, top-1, top)
	for _, what := range all() {
		for _, a := range edges {
			for _, b := range edges {
				for _, there := range w(low, -2, 0, 3, top) {
					got := w(a, b, there)[:many(what)]
					s := api.Stmt{Do: what, Value: a}
					want := putByHand(s, there, got)
					wantDeed(t, what, there, want, got...)
				}
			}
		}
	}
}

// N1: from outside an array 0 is got, ahead of it and behind it.
func TestN1GetFromOutside(t *testing.T) {
	line := in(l(7))
	n := over(l(7, 3), do(api.DoCopy, line, at(0, 0, 1), at(1, -2, 1)))
	wantRun(t, n, mem(w(9, 9, 9, 9, 9, 9, 9), w(4, 5, 6)), w(0, 0, 4, 5, 6, 0, 0), w(4, 5, 6))
	n = over(l(7, 3), do(api.DoCopy, line, at(0, 0, 1), at(1, 4, -1)))
	wantRun(t, n, mem(w(9, 9, 9, 9, 9, 9, 9), w(4, 5, 6)), w(0, 0, 6, 5, 4, 0, 0), w(4, 5, 6))
	for _, place := range l(-far, -3, -1, 3, 4, far) {
		for _, what := range all()[1:] {
			for out := range many(what) {
				s := do(what, in(nil), at(0, 0), slices.Repeat([]api.Access{at(1, 1)}, many(what))...)
				s.Get[out] = at(1, place)
				got := slices.Repeat(w(5), many(what))
				got[out] = 0
				want := putByHand(s, 11, got)
				wantRun(t, over(l(1, 3), s), mem(w(11), w(4, 5, 6)), w(want), w(4, 5, 6))
			}
		}
	}
	// Where the numbers of another array lie nothing is got.
	n = over(l(1, 2, 2), do(api.DoCopy, in(nil), at(0, 0), at(1, 2)))
	wantRun(t, n, mem(w(9), w(1, 2), w(3, 4)), w(0), w(1, 2), w(3, 4))
	// An array of none has an outside alone.
	n = over(l(1, 0), do(api.DoCopy, in(nil), at(0, 0), at(1, 0)))
	wantRun(t, n, mem(w(9), nil), w(0), nil)
}

// N1: what is put outside an array goes nowhere, whatever kind puts it.
func TestN1PutOutside(t *testing.T) {
	for _, place := range l(-far, -3, -1, 3, 4, far) {
		for _, what := range all() {
			s := do(what, in(nil), at(1, place), slices.Repeat([]api.Access{at(1, 1)}, many(what))...)
			s.Value = 8
			given := mem(w(1, 2), w(4, 5, 6), w(7, 8))
			wantRun(t, over(l(2, 3, 2), s, s), given, given...)
			// Nor can it be got from there.
			read := do(api.DoCopy, in(nil), at(0, 1), at(1, place))
			wantRun(t, over(l(2, 3, 2), s, read), given, w(1, 0), w(4, 5, 6), w(7, 8))
		}
	}
	n := over(l(3), set(8, in(l(7)), at(0, -2, 1)))
	wantRun(t, n, mem(w(1, 2, 3)), w(8, 8, 8))
	n = over(l(3), set(8, in(l(4)), at(0, -3, 2)))
	wantRun(t, n, mem(w(1, 2, 3)), w(1, 8, 3))
	n = over(l(0, 1), set(8, in(l(4)), at(0, 0, 1)))
	wantRun(t, n, mem(nil, w(5)), nil, w(5))
}

// N1: a statement gets what it has put at an earlier point, and not what it puts at a later one.
func TestN1WhatWasPutAhead(t *testing.T) {
	n := over(l(5), do(api.DoAdd, in(l(4)), at(0, 1, 1), at(0, 0, 1), at(0, 1, 1)))
	wantRun(t, n, mem(w(1, 2, 3, 4, 5)), w(1, 3, 6, 10, 15))
	n = over(l(5), do(api.DoAdd, in(l(4)), at(0, 0, 1), at(0, 0, 1), at(0, 1, 1)))
	wantRun(t, n, mem(w(1, 2, 3, 4, 5)), w(3, 5, 7, 9, 5))
	// The last number runs fastest.
	n = over(l(1, 6), do(api.DoMac, in(l(2, 3)), at(0, 0, 0, 0), at(0, 0, 0, 0), at(1, 0, 3, 1)))
	wantRun(t, n, mem(w(1), w(1, 2, 3, 4, 5, 6)), w(2*3*4*5*6*7), w(1, 2, 3, 4, 5, 6))
	n = over(l(1), do(api.DoSub, in(l(2, 2)), at(0, 0, 0, 0), at(1, 0, 2, 1), at(0, 0, 0, 0)))
	n.Sizes = l(1, 4)
	wantRun(t, n, mem(w(100), w(1, 20, 300, 4000)), w(4000-300+20-1+100), w(1, 20, 300, 4000))
	n = over(l(1), do(api.DoCopy, in(l(3, 2)), at(0, 0, 0, 0), at(1, 0, 1, 3)))
	n.Sizes = l(1, 6)
	wantRun(t, n, mem(w(0), w(1, 2, 3, 4, 5, 6)), w(6), w(1, 2, 3, 4, 5, 6))
}

// N1: a statement that reads what it puts.
func TestN1WhatIsThere(t *testing.T) {
	n := over(l(2, 6), do(api.DoMore, in(l(2, 3)), at(0, 0, 1, 0), at(1, 0, 3, 1)))
	wantRun(t, n, mem(w(100, -100), w(1, 2, 3, 4, 5, 6)), w(106, -85), w(1, 2, 3, 4, 5, 6))
	n = over(l(2, 3), do(api.DoMac, in(l(2, 3)), at(0, 0, 1, 0), at(1, 0, 0, 1), at(1, 0, 0, 1)))
	wantRun(t, n, mem(w(100, -100), w(1, 2, 3)), w(114, -86), w(1, 2, 3))
	// What it gets and what is there are one.
	n = over(l(1), do(api.DoMore, in(l(70)), at(0, 0, 0), at(0, 0, 0)))
	wantRun(t, n, mem(w(3)), w(0))
	n.Stmts[0].Over.Box[0] = 62
	wantRun(t, n, mem(w(3)), w(-1<<62))
	n = over(l(1), do(api.DoMac, in(l(2)), at(0, 0, 0), at(0, 0, 0), at(0, 0, 0)))
	wantRun(t, n, mem(w(3)), w(156))
}

// N1: points with no entries in Box, with none, with rows.
func TestN1WhichPoints(t *testing.T) {
	for _, c := range []struct {
		over api.Points
		want []int64
	}{
		{in(nil), w(5, 0, 0, 0)}, {in(nil, row(0)), w(5, 0, 0, 0)}, {in(nil, row(-1)), w(0, 0, 0, 0)},
		{in(l(1)), w(5, 0, 0, 0)}, {in(l(3)), w(5, 5, 5, 0)}, {in(l(0)), w(0, 0, 0, 0)}, {in(l(9)), w(5, 5, 5, 5)},
		{in(l(4), row(-2, 1)), w(0, 0, 5, 5)}, {in(l(4), row(-1, 1), row(2, -1)), w(0, 5, 5, 0)}, {in(l(4), row(-4, 1)), w(0, 0, 0, 0)},
	} {
		n := over(l(4), set(5, c.over, at(0, 0, slices.Repeat(l(1), len(c.over.Box))...)))
		wantRun(t, n, mem(w(0, 0, 0, 0)), c.want)
	}
	n := over(l(9), do(api.DoMore, in(l(3, 3), row(0, -1, 1)), at(0, 0, 3, 1), at(1, 0, 0, 0)))
	n.Sizes = l(9, 1)
	wantRun(t, n, mem(make([]int64, 9), w(1)), w(1, 1, 1, 0, 1, 1, 0, 0, 1), w(1))
	n = over(l(4096), do(api.DoSet, in(l(8, 8, 8, 8)), at(0, 4095, -512, -64, -8, -1)))
	n.Stmts[0].Value = 2
	wantRun(t, n, mem(make([]int64, 4096)), slices.Repeat(w(2), 4096))
}

// N3: all statements are done, one behind the other, each at all of its points.
func TestN3OneBehindTheOther(t *testing.T) {
	line := in(l(3))
	a, b := set(5, line, at(0, 0, 1)), do(api.DoMore, line, at(0, 0, 1), at(0, -1, 1))
	wantRun(t, over(l(3), a, b), mem(w(1, 2, 3)), w(5, 10, 15))
	wantRun(t, over(l(3), b, a), mem(w(1, 2, 3)), w(5, 5, 5))
	wantRun(t, over(l(3), b, b), mem(w(1, 2, 3)), w(1, 4, 10))
	wantRun(t, over(l(3)), mem(w(1, 2, 3)), w(1, 2, 3))
	wantRun(t, over(nil), nil)
	wantRun(t, over(l(0, 0)), mem(nil, nil), nil, nil)
	more := do(api.DoMore, in(nil), at(0, 0), at(1, 0))
	wantRun(t, over(l(1, 1), slices.Repeat([]api.Stmt{more}, 256)...), mem(w(0), w(3)), w(768), w(3))
	full := make([]int64, 65536)
	full[65535] = 6
	wantRun(t, over(l(65536, 1), do(api.DoCopy, in(nil), at(1, 0), at(0, 65535))), mem(full, w(0)), full, w(6))
}

// N3: mem has an array for each of the nest's, each of its size.
func TestN3WhatIsHandedIn(t *testing.T) {
	n := over(l(2, 3), set(1, in(l(2)), at(0, 0, 1)))
	wantRun(t, n, mem(w(0, 0), w(7, 8, 9)), w(1, 1), w(7, 8, 9))
	for _, given := range [][][]int64{nil, mem(), mem(w(0, 0)), mem(w(0, 0), w(7, 8, 9), nil), mem(w(0, 0), w(7, 8, 9), w(1, 2)), mem(w(0)), mem(w(0), w(7), w(1))} {
		wantNoRun(t, n, given, api.ErrMany)
	}
	for _, given := range [][][]int64{mem(nil, w(7, 8, 9)), mem(w(0), w(7, 8, 9)), mem(w(0, 0, 0), w(7, 8, 9)), mem(w(0, 0), w(7, 8)), mem(w(0, 0), w(7, 8, 9, 10)), mem(w(0, 0), nil), mem(w(7, 8, 9), w(0, 0)), mem(nil, nil)} {
		wantNoRun(t, n, given, api.ErrShape)
	}
	wantNoRun(t, over(nil), mem(nil), api.ErrMany)
	wantNoRun(t, over(l(0)), nil, api.ErrMany)
	wantNoRun(t, over(l(0)), mem(w(1)), api.ErrShape)
	n.Stmts[0].Do = 11
	for _, given := range [][][]int64{nil, mem(w(0), w(7, 8, 9)), mem(w(0, 0), w(7, 8, 9))} {
		wantNoRun(t, n, given, api.ErrKind)
	}
}

// N1, N3: dice-thrown nests, against their words.
func TestN3Dice(t *testing.T) {
	d := thrown(3)
	changed := map[int]int{}
	for range 6000 {
		n := d.nest()
		var given [][]int64
		for _, size := range n.Sizes {
			given = append(given, d.numbers(size))
		}
		want := runByHand(n, given)
		got, err := nest.Run(n, given)
		if err != api.OK || !same(got, want) {
			t.Fatalf("%s of %v: %v, %d comes, not %v", show(n), given, got, err, want)
		}
		if len(n.Stmts) == 1 && !same(want, given) {
			changed[n.Stmts[0].Do]++
		}
	}
	if len(changed) != 10 {
		t.Errorf("just these kinds changed something: %s", fmt.Sprint(changed))
	}
}
