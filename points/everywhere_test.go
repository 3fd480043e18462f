package points_test

import (
	"fmt"
	"slices"
	"sync"
	"testing"

	"adjoint/api"
	"adjoint/points"
)

// roomy is a list with room behind it, in which something stands.
func roomy[T any](list []T, with T) []T {
	return append(slices.Clone(list), with, with, with)[:len(list)]
}

// whole shows a list with the room behind it.
func whole[T any](list []T) string { return fmt.Sprint(list[:cap(list)]) }

// spoil writes over a list, its spare room too.
func spoil[T any](list []T, with T) {
	list = list[:cap(list)]
	for k := range list {
		list[k] = with
	}
}

// roomyPoints are points of which every list has room behind it.
func roomyPoints(p api.Points) api.Points {
	out := api.Points{Box: roomy(p.Box, -7), Rows: roomy(p.Rows, row(-7, -7))}
	for k, r := range out.Rows {
		out.Rows[k].Coef = roomy(r.Coef, -7)
	}
	return out
}

// wholePoints shows points with the room behind each list.
func wholePoints(p api.Points) string {
	out := whole(p.Box) + whole(p.Rows)
	for _, r := range p.Rows {
		out += whole(r.Coef)
	}
	return out
}

// spoilPoints writes over each list of points.
func spoilPoints(p api.Points) {
	for _, r := range p.Rows {
		spoil(r.Coef, -far)
	}
	spoil(p.Box, 3)
	spoil(p.Rows, row(-1, -1))
}

// boundLists are the lists of numbers of loops.
func boundLists(loops []api.Loop) [][]int {
	var all [][]int
	for _, loop := range loops {
		for _, b := range slices.Concat(loop.Lows, loop.Highs) {
			all = append(all, b.Row.Coef)
		}
	}
	return all
}

// some are points of which nothing is wrong.
func some() []api.Points {
	return []api.Points{
		in(nil), in(nil, row(0)), in(nil, row(-1)), in(l(3)), in(l(0)), in(l(3, 3), row(0, -1, 1)), in(l(2, 2), row(-1, 0, 0)),
		in(l(4, 5, 2), row(-3, 1, 1, 0), row(7, -2, 0, 3)), in(l(2, 3, 2, 2), row(-2, 1, 1, 1, 1), row(3, -1, -1, -1, -1), row(1, -1, 0, 0, 0)),
	}
}

// all is what all calls tell of points.
func all(p api.Points, x []int) string {
	count, err := points.Count(p)
	nth, no := points.Nth(p, 2)
	ahead, none := points.Ahead(p, x)
	low, high, nothing := points.Ends(p)
	loops, wrong := points.Loops(p)
	return fmt.Sprint(points.Wrong(p), gathered(points.All(p)), count, err, nth, no, ahead, none, low, high, nothing, loops, wrong)
}

// E2: what is handed in is only read, the room behind it too.
func TestE2OnlyRead(t *testing.T) {
	for _, p := range append(some(), in(l(-1)), in(l(2), row(0)), in(l(2), row(far+1, 1)), in(l(65, 64)), in(l(1, 1, 1, 1, 1)), in(l(2), many(9, 1)...)) {
		p, x := roomyPoints(p), roomy(l(0, 1), -7)
		was := wholePoints(p) + whole(x)
		first := all(p, x)
		if second := all(p, x); second != first {
			t.Errorf("%v: %s comes, and then %s", p, first, second)
		}
		if now := wholePoints(p) + whole(x); now != was {
			t.Errorf("%s was handed in, and %s came back", was, now)
		}
	}
}

// E2: nothing is kept of what is handed in, not even by a sequence that is still to be gone through, or that is just gone through.
func TestE2NothingIsKept(t *testing.T) {
	for _, given := range some() {
		p := roomyPoints(given)
		want := byHand(given)
		sequence := points.All(p)
		loops, _ := points.Loops(p)
		low, high, _ := points.Ends(p)
		was := fmt.Sprint(loops, low, high)
		spoilPoints(p)
		if got := gathered(sequence); !sameLists(got, want) {
			t.Errorf("%v: the points change with what was handed in: %v", given, got)
		}
		if now := fmt.Sprint(loops, low, high); now != was {
			t.Errorf("%v: %s becomes %s", given, was, now)
		}
		p = roomyPoints(given)
		var got [][]int
		for x := range points.All(p) {
			got = append(got, x)
			spoilPoints(p)
		}
		if !sameLists(got, want) {
			t.Errorf("%v: the points change on the way: %v", given, got)
		}
	}
}

// E2: what is answered shares nothing with what was handed in, and no two lists of it share anything.
func TestE2NewMemory(t *testing.T) {
	for _, p := range some() {
		p := roomyPoints(p)
		was := wholePoints(p)
		low, high, _ := points.Ends(p)
		nth, _ := points.Nth(p, 0)
		loops, _ := points.Loops(p)
		lists := append(boundLists(loops), low, high, nth)
		for _, x := range gathered(points.All(p)) {
			lists = append(lists, x)
		}
		for k, list := range lists {
			spoil(list, -100-k)
		}
		for k, list := range lists {
			if slices.ContainsFunc(list[:cap(list)], func(n int) bool { return n != -100-k }) {
				t.Errorf("%v: list %d shares room with another one", p, k)
			}
		}
		for _, loop := range loops {
			spoil(loop.Lows, api.Bound{Div: -1})
			for _, b := range loop.Highs {
				if b.Div < 1 {
					t.Errorf("%v: Lows and Highs share room", p)
				}
			}
			spoil(loop.Highs, api.Bound{Div: -2})
			for _, b := range loop.Lows {
				if b.Div != -1 {
					t.Errorf("%v: Highs and Lows share room", p)
				}
			}
		}
		if now := wholePoints(p); now != was {
			t.Errorf("%s was handed in, and changes to %s with what is answered", was, now)
		}
	}
}

// E3: nil and a list without entries are the same.
func TestE3NilAndEmpty(t *testing.T) {
	for _, box := range [][]int{nil, {}, make([]int, 0, 3)} {
		for _, coefs := range [][]int{nil, {}, make([]int, 0, 3)} {
			for _, rows := range [][]api.Row{nil, {}, make([]api.Row, 0, 3), {{Coef: coefs}}, {{Coef: coefs, Const: 1}, {Coef: coefs}}} {
				p := in(box, rows...)
				wantWrong(t, p, api.OK)
				wantAll(t, p, l())
				wantLoops(t, p)
				if got, err := points.Ahead(p, coefs); got != 0 || err != api.OK {
					t.Errorf("%v: %d, %d comes", p, got, err)
				}
			}
			wantAll(t, in(box, api.Row{Coef: coefs, Const: -1}))
			wantWrong(t, in(l(2), api.Row{Coef: coefs}), api.ErrShape)
		}
	}
	for _, rows := range [][]api.Row{nil, {}, make([]api.Row, 0, 3)} {
		wantAll(t, in(l(2), rows...), l(0), l(1))
		wantLoops(t, in(l(2), rows...), l(0), l(1))
	}
	for _, x := range [][]int{nil, {}, make([]int, 0, 3)} {
		if got, err := points.Ahead(in(l(2)), x); got != 0 || err != api.ErrShape {
			t.Errorf("%d, %d comes", got, err)
		}
	}
}

// E1, E4: whatever is handed in, nothing panics, and with an error there is nothing else.
func TestE1WhateverIsGiven(t *testing.T) {
	d := thrown(1)
	odd := func() int {
		if d.IntN(6) > 0 {
			return d.of(0, 1, 1, 2, 3, -1)
		}
		return d.of(least, -far-1, -far, far, far+1, 64, 4095, 4096, 4097, 1<<32, most)
	}
	list := func(longest int) []int {
		out := make([]int, d.IntN(longest+1))
		for k := range out {
			out[k] = odd()
		}
		return out
	}
	fine := 0
	for range 20000 {
		p := api.Points{Box: list(5)}
		for range d.of(0, 0, 1, 2, 3, 9) {
			p.Rows = append(p.Rows, api.Row{Coef: list(4), Const: odd()})
			if d.IntN(3) > 0 {
				p.Rows[len(p.Rows)-1].Coef = append(list(5), make([]int, 5)...)[:len(p.Box)]
			}
		}
		want := wrongByHand(p)
		wantWrong(t, p, want)
		nth, err := points.Nth(p, odd())
		if err != api.OK && len(nth) > 0 {
			t.Fatalf("%v: Nth tells %v, %d", p, nth, err)
		}
		if got, err := points.Ahead(p, list(5)); err != api.OK && got != 0 {
			t.Fatalf("%v: Ahead tells %d, %d", p, got, err)
		}
		if want == api.OK {
			fine++
			wantEnds(t, p, byHand(p))
			wantLoops(t, p, byHand(p)...)
		}
	}
	if fine < 1000 {
		t.Errorf("%d were right", fine)
	}
}

// E1: several calls do not know of one another.
func TestE1AtTheSameTime(t *testing.T) {
	p := in(l(8, 8, 8), row(-9, 1, 2, 1), row(20, -3, 1, -2))
	want := all(p, l(1, 2, 6))
	got := make([]string, 8)
	var group sync.WaitGroup
	for k := range got {
		group.Go(func() { got[k] = all(p, l(1, 2, 6)) })
	}
	group.Wait()
	for _, s := range got {
		if s != want {
			t.Errorf("%s comes at the same time, not %s", s, want)
		}
	}
}
