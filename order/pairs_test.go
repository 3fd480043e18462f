package order_test

import (
	"testing"

	"adjoint/api"
	"adjoint/graph"
	"adjoint/nest"
	"adjoint/order"
	"adjoint/text"
)

// none is what is answered where there is no pair.
var none = api.Found{}

// O1: times are compared as lists, with noughts behind those that are shorter. All spots put into one place.
func TestO1Times(t *testing.T) {
	n := over(l(1), once(api.DoSet, 0), once(api.DoSet, 0))
	list := func(numbers ...int) []api.Row {
		var out []api.Row
		for _, x := range numbers {
			out = append(out, row(x))
		}
		return out
	}
	for _, c := range []struct {
		lesser, greater []int
	}{
		{l(0), l(1)}, {l(-1), l(0)}, {l(-far), l(far)}, {l(-2), l(-1)},
		{l(), l(1)}, {l(-1), l()}, {l(), l(0, 0, 1)}, {l(0, 0, -1), l()}, {l(0), l(0, 1)}, {l(0, -1), l(0)}, {l(1), l(1, 0, 0, 1)}, {l(1, 0, 0, -1), l(1)},
		{l(0, 9), l(1, 0)}, {l(0, 9), l(1)}, {l(-1, 9), l()}, {l(-1, 9, 9), l(-1, 10)}, {l(1, 2, 3), l(1, 2, 4)}, {l(2, 1), l(10)}, {l(0, 0, 0, 0, 0, 0, 0, 0), l(0, 0, 0, 0, 0, 0, 0, 1)}, {l(0, 0, 0, 0, 0, 0, 0, -1), l()}, {l(), l(0, 0, 0, 0, 0, 0, 0, 1)},
	} {
		lesser, greater := list(c.lesser...), list(c.greater...)
		wantPairs(t, n, api.Times{lesser, greater}, none, none)
		wantPairs(t, n, api.Times{greater, lesser}, pair(spot(0), spot(1)), none)
	}
	for _, one := range [][]int{l(), l(0), l(0, 0), l(0, 0, 0, 0, 0, 0, 0, 0)} {
		for _, other := range [][]int{l(), l(0), l(0, 0, 0), l(0, 0, 0, 0, 0, 0, 0, 0)} {
			wantPairs(t, n, api.Times{list(one...), list(other...)}, none, pair(spot(0), spot(1)))
			behind := func(numbers []int) []api.Row { return append(list(-7), list(numbers...)...)[:min(len(numbers)+1, 8)] }
			wantPairs(t, n, api.Times{behind(one), behind(other)}, none, pair(spot(0), spot(1)))
		}
	}
}

// O1: a row's numbers are those at the point; very great ones are told apart.
func TestO1TimesOfPoints(t *testing.T) {
	n := over(l(1), do(api.DoSet, in(l(2, 3)), at(0, 0, 0, 0)))
	wantPairs(t, n, api.Times{rows(row(0, 3, 1))}, none, none)
	wantPairs(t, n, api.Times{rows(row(0, 2, 1))}, none, pair(spot(0, 0, 2), spot(0, 1, 0)))
	wantPairs(t, n, api.Times{rows(row(0, 1, 1))}, pair(spot(0, 0, 2), spot(0, 1, 0)), pair(spot(0, 0, 1), spot(0, 1, 0)))
	wantPairs(t, n, api.Times{rows(row(5, 1, 0))}, none, pair(spot(0, 0, 0), spot(0, 0, 1)))
	wantPairs(t, n, api.Times{rows(row(5, 1, 0), row(0, 0, 1))}, none, none)
	wantPairs(t, n, api.Times{rows(row(0, 0, 1), row(0, 1, 0))}, pair(spot(0, 0, 1), spot(0, 1, 0)), none)
	wantPairs(t, n, api.Times{rows(row(0, 0, -1))}, pair(spot(0, 0, 0), spot(0, 0, 1)), pair(spot(0, 0, 0), spot(0, 1, 0)))
	wantPairs(t, n, api.Times{rows(row(-far, far, -far))}, pair(spot(0, 0, 0), spot(0, 0, 1)), pair(spot(0, 0, 0), spot(0, 1, 1)))
	line := over(l(1), do(api.DoSet, in(l(1000)), at(0, 0, 0)))
	wantPairs(t, line, api.Times{rows(row(far, far))}, none, none)
	wantPairs(t, line, api.Times{rows(row(far, -far))}, pair(spot(0, 0), spot(0, 1)), none)
}

// O3: two of all kinds that put into the same place are in each other's way, but if both are DoMore or DoMac.
func TestO3SamePlace(t *testing.T) {
	adds := func(what int) bool { return what == api.DoMore || what == api.DoMac }
	for _, what := range all() {
		for _, other := range all() {
			a, b := once(what, 0, l(1, 1, 1)[:many(what)]...), once(other, 0, l(1, 1, 1)[:many(other)]...)
			n := over(l(3), a, b)
			legal, free := pair(spot(0), spot(1)), pair(spot(0), spot(1))
			if adds(what) && adds(other) {
				legal, free = none, none
			}
			wantPairs(t, n, turns(1, 0), legal, none)
			wantPairs(t, n, together(2), none, free)
			wantPairs(t, n, turns(0, 1), none, none)
			// Into another place, or another array, nobody is in the way.
			b.Put = at(0, 2)
			wantNoPairs(t, over(l(3), a, b), turns(1, 0), api.OK)
			b.Put = at(1, 0)
			wantNoPairs(t, over(l(3, 3), a, b), turns(1, 0), api.OK)
			wantNoPairs(t, over(l(3, 3), a, b), together(2), api.OK)
		}
	}
}

// O3: one gets from the place into which the other one puts, whichever stands ahead, and whichever of its gets it is.
func TestO3GetsWhatIsPut(t *testing.T) {
	for _, what := range all() {
		for k := range many(what) {
			for _, other := range all() {
				gets := l(1, 1, 1)[:many(what)]
				gets[k] = 2
				a, b := once(what, 0, gets...), once(other, 2, l(1, 1, 1)[:many(other)]...)
				wantPairs(t, over(l(3), a, b), turns(1, 0), pair(spot(0), spot(1)), none)
				wantPairs(t, over(l(3), b, a), turns(1, 0), pair(spot(0), spot(1)), none)
				wantPairs(t, over(l(3), a, b), together(2), none, pair(spot(0), spot(1)))
				wantPairs(t, over(l(3), b, a), together(2), none, pair(spot(0), spot(1)))
				// The same place of another array is another place.
				a.Get[k].Array = 1
				wantNoPairs(t, over(l(3, 3), a, b), turns(1, 0), api.OK)
				wantNoPairs(t, over(l(3, 3), b, a), together(2), api.OK)
			}
		}
	}
	// Both get from one place: that is in nobody's way.
	wantNoPairs(t, over(l(3), once(api.DoCopy, 0, 2), once(api.DoCopy, 1, 2)), turns(1, 0), api.OK)
	wantNoPairs(t, over(l(3), once(api.DoCopy, 0, 2), once(api.DoCopy, 1, 2)), together(2), api.OK)
	// Both add to one place, and one of them gets from it too.
	for _, n := range []api.Nest{over(l(3), once(api.DoMore, 0, 0), once(api.DoMac, 0, 1, 2)), over(l(3), once(api.DoMac, 0, 1, 2), once(api.DoMore, 0, 0)), over(l(3), once(api.DoMore, 0, 1), once(api.DoMac, 0, 1, 0))} {
		wantPairs(t, n, turns(1, 0), pair(spot(0), spot(1)), none)
		wantPairs(t, n, together(2), none, pair(spot(0), spot(1)))
	}
}

// O3: a spot is not in its own way, though it gets what it puts itself.
func TestO3OwnPlace(t *testing.T) {
	for _, s := range []api.Stmt{once(api.DoCopy, 0, 0), once(api.DoMore, 0, 0), once(api.DoAdd, 0, 0, 0), once(api.DoPick, 0, 0, 0, 0)} {
		wantNoPairs(t, over(l(1), s), together(1), api.OK)
	}
	own := do(api.DoAdd, in(l(4)), at(0, 0, 1), at(0, 0, 1), at(0, 0, 1))
	wantNoPairs(t, over(l(4), own), together(1), api.OK)
	wantNoPairs(t, over(l(4), own), api.Times{rows(row(0, -1))}, api.OK)
	wantPairs(t, over(l(4), own, own), together(2), none, pair(spot(0, 0), spot(1, 0)))
}

// O3: who puts outside an array is in nobody's way, whatever it gets; and outside there is no place to be in the way of.
func TestO3Outside(t *testing.T) {
	for _, place := range l(-far, -1, 3, far) {
		for _, what := range all() {
			outside := once(what, place, l(0, 0, 0)[:many(what)]...)
			for _, n := range []api.Nest{over(l(3), outside, once(api.DoSet, 0)), over(l(3), once(api.DoSet, 0), outside), over(l(3), outside, outside), over(l(3), outside, once(api.DoCopy, 1, place)), over(l(3), once(api.DoCopy, 1, place), outside)} {
				wantNoPairs(t, n, turns(1, 0), api.OK)
				wantNoPairs(t, n, together(2), api.OK)
			}
		}
		// Both get from outside, and what they put is apart.
		wantNoPairs(t, over(l(3), once(api.DoCopy, 0, place), once(api.DoCopy, 1, place)), together(2), api.OK)
	}
	// Of an array without numbers all is outside.
	wantNoPairs(t, over(l(0), once(api.DoSet, 0), once(api.DoSet, 0)), together(2), api.OK)
	// The first and the last place are inside.
	for _, place := range l(0, 2) {
		wantPairs(t, over(l(3), once(api.DoSet, place), once(api.DoSet, place)), turns(1, 0), pair(spot(0), spot(1)), none)
		wantPairs(t, over(l(3), once(api.DoSet, place), once(api.DoCopy, 1, place)), turns(1, 0), pair(spot(0), spot(1)), none)
	}
	// Some points of a statement are outside: 0 1 2 at 2 0 -2.
	s := do(api.DoSet, in(l(3)), at(0, 2, -2))
	wantPairs(t, over(l(3), s, s), together(2), none, pair(spot(0, 0), spot(1, 0)))
	wantPairs(t, over(l(1), s, s), together(2), none, pair(spot(0, 1), spot(1, 1)))
}

// O4: of several pairs that one is told whose B stands first, and of these that whose A does.
func TestO4WhichPair(t *testing.T) {
	set := once(api.DoSet, 0)
	n := over(l(4), set, set, set)
	wantPairs(t, n, turns(2, 1, 0), pair(spot(0), spot(1)), none)
	wantPairs(t, n, turns(1, 2, 0), pair(spot(0), spot(2)), none)
	wantPairs(t, n, turns(0, 2, 1), pair(spot(1), spot(2)), none)
	wantPairs(t, n, turns(1, 1, 0), pair(spot(0), spot(2)), pair(spot(0), spot(1)))
	wantPairs(t, n, turns(1, 0, 0), pair(spot(0), spot(1)), pair(spot(1), spot(2)))
	wantPairs(t, n, turns(0, 1, 0), pair(spot(1), spot(2)), pair(spot(0), spot(2)))
	// The B that stands first is told, though a pair with another B has an A that stands ahead.
	late := over(l(4), once(api.DoSet, 3), once(api.DoSet, 2), once(api.DoCopy, 1, 2), once(api.DoCopy, 0, 3))
	wantPairs(t, late, together(4), none, pair(spot(1), spot(2)))
	wantPairs(t, late, turns(3, 2, 1, 0), pair(spot(1), spot(2)), none)
	// B's get is from what the first one puts, its put into what the second one gets from: the first one is told, and the other way round.
	wantPairs(t, over(l(4), once(api.DoSet, 0), once(api.DoCopy, 2, 1), once(api.DoCopy, 1, 0)), together(3), none, pair(spot(0), spot(2)))
	wantPairs(t, over(l(4), once(api.DoCopy, 2, 1), once(api.DoSet, 0), once(api.DoCopy, 1, 0)), together(3), none, pair(spot(0), spot(2)))
	wantPairs(t, over(l(4), once(api.DoSet, 1), once(api.DoSet, 0), once(api.DoCopy, 1, 0)), together(3), none, pair(spot(0), spot(2)))
	wantPairs(t, over(l(4), once(api.DoSet, 0), once(api.DoSet, 1), once(api.DoAdd, 2, 1, 0)), together(3), none, pair(spot(0), spot(2)))
	wantPairs(t, over(l(4), once(api.DoSet, 1), once(api.DoSet, 0), once(api.DoAdd, 2, 1, 0)), together(3), none, pair(spot(0), spot(2)))
	// One statement, each point of which gets what that ahead of it puts; then a second statement.
	chain := do(api.DoCopy, in(l(3)), at(0, 1, 1), at(0, 0, 1))
	wantPairs(t, over(l(4), chain), api.Times{rows(row(0, -1))}, pair(spot(0, 0), spot(0, 1)), none)
	wantPairs(t, over(l(4), chain, do(api.DoSet, in(l(2)), at(0, 3, 0))), api.Times{rows(row(0, 1)), rows(row(1, 1))}, pair(spot(0, 2), spot(1, 0)), pair(spot(0, 2), spot(1, 1)))
}

// O4: as many spots as may be looked at, and one more; those of all statements together.
func TestO4HowManySpots(t *testing.T) {
	apart := func(box ...int) api.Stmt {
		coefs := make([]int, len(box))
		return do(api.DoMore, in(box), at(0, 0, coefs...), at(1, 0, coefs...))
	}
	below := func(end int) api.Points { return in(l(4096), row(end-1, -1)) }
	some := do(api.DoMore, below(1024), at(0, 0, 0), at(1, 0, 1))
	more := do(api.DoMore, below(1025), at(0, 0, 0), at(1, 0, 1))
	for _, n := range []api.Nest{over(l(1, 1), apart(1024)), over(l(1, 1), apart(32, 32)), over(l(1, 1), apart(1023), apart()), over(l(1, 1), apart(512), apart(0), apart(2, 256)), over(l(1, 1), some), over(l(1, 1), some, apart(0), do(api.DoMore, below(0), at(0, 0, 0), at(1, 0, 1)))} {
		wantNoPairs(t, n, together(len(n.Stmts)), api.OK)
		wantRun(t, n, together(len(n.Stmts)), mem(w(3), w(0)), nil, w(3), w(0))
	}
	for _, n := range []api.Nest{over(l(1, 1), apart(1025)), over(l(1, 1), apart(4096)), over(l(1, 1), apart(5, 205)), over(l(1, 1), apart(1024), apart()), over(l(1, 1), apart(1), apart(1024)), over(l(1, 1), apart(512), apart(513)), over(l(1, 1), more), over(l(1, 1), some, apart())} {
		if got := order.Wrong(n, together(len(n.Stmts))); got != api.OK {
			t.Errorf("%s: Wrong tells %d", show(n), got)
		}
		wantNoPairs(t, n, together(len(n.Stmts)), api.ErrMuch)
		// That comes ahead of what is wrong with mem.
		wantNoRun(t, n, together(len(n.Stmts)), mem(w(3), w(0)), api.ErrMuch)
		wantNoRun(t, n, together(len(n.Stmts)), nil, api.ErrMuch)
		wantNoRun(t, n, together(len(n.Stmts)), mem(w(3), w()), api.ErrMuch)
	}
	// The last of so many is found too.
	last := over(l(2000), do(api.DoSet, in(l(1023)), at(0, 0, 1)), once(api.DoSet, 1022))
	wantPairs(t, last, together(2), none, pair(spot(0, 1022), spot(1)))
}

// O4: a product of matrices may sum in any order, but not ahead of the noughts.
func TestO4Graph(t *testing.T) {
	p, _ := text.Read("fn f(x: [2 3], y: [3 2]) = dot{1}{0}(x, y) * 2;")
	g, _ := graph.Build(p, "f", [][]int{{2, 3}, {3, 2}})
	lowered, _ := nest.Lower(g)
	n := lowered.Nest
	times := order.Plain(n)
	times[1] = rows(row(1, 0, 0, 0), row(0, 0, 0, -1), row(0, 0, 1, 0))
	wantNoPairs(t, n, times, api.OK)
	times[1] = rows(row(0, 0, 0, 0), row(-1, 0, 0, 0))
	legal := legalByHand(n, times)
	if !legal.Any || legal.A.Stmt != 0 || legal.B.Stmt != 1 {
		t.Fatalf("%v is what is found by hand", legal)
	}
	wantPairs(t, n, times, legal, freeByHand(n, times))
}

// O1, O3, O4: nests and times that dice have thrown, against the words.
func TestO4Thrown(t *testing.T) {
	d := thrown(2)
	legals, frees, nones, later := 0, 0, 0, 0
	for range 4000 {
		n := d.nest()
		times := d.times(n)
		legal, free := legalByHand(n, times), freeByHand(n, times)
		wantPairs(t, n, times, legal, free)
		switch {
		case legal.Any && free.Any:
			later++
		case legal.Any:
			legals++
		case free.Any:
			frees++
		case len(spotsByHand(n)) > 2:
			nones++
		}
	}
	if min(legals, frees, nones, later) < 100 {
		t.Errorf("%d have one that is not legal, %d one that is not free, %d both, %d none", legals, frees, later, nones)
	}
}
