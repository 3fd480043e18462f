package points_test

import (
	"slices"
	"testing"

	"adjoint/api"
	"adjoint/plain"
	"adjoint/points"
)

// wantAll: these points come, in this order, each time; and what the other calls tell goes with them.
func wantAll(t *testing.T, p api.Points, want ...[]int) {
	t.Helper()
	all := points.All(p)
	for range 3 {
		if got := gathered(all); !sameLists(got, want) {
			t.Errorf("%v: %v comes, not %v", p, got, want)
		}
	}
	if got, ok := plain.Points(p); !ok || !sameLists(got, want) {
		t.Errorf("%v: %v, %v comes, not %v", p, got, ok, want)
	}
	wantCount(t, p, want)
	wantEnds(t, p, want)
}

// wantCount: Count, Nth and Ahead tell what goes with these points.
func wantCount(t *testing.T, p api.Points, want [][]int) {
	t.Helper()
	if got, err := points.Count(p); got != len(want) || err != api.OK {
		t.Errorf("%v: Count tells %d, %d, not %d", p, got, err, len(want))
	}
	for n, x := range want {
		if got, err := points.Nth(p, n); !slices.Equal(got, x) || err != api.OK {
			t.Errorf("%v: number %d is %v, %d, not %v", p, n, got, err, x)
		}
		if got, err := points.Ahead(p, x); got != n || err != api.OK {
			t.Errorf("%v: ahead of %v are %d, %d, not %d", p, x, got, err, n)
		}
	}
	for _, n := range l(least, least+1, -len(want), -1, len(want), len(want)+1, 4096, most) {
		if n >= 0 && n < len(want) {
			continue
		}
		if got, err := points.Nth(p, n); len(got) > 0 || err != api.ErrNone {
			t.Errorf("%v: number %d is %v, %d", p, n, got, err)
		}
	}
}

// wantEnds: Ends tells what goes with these points.
func wantEnds(t *testing.T, p api.Points, want [][]int) {
	t.Helper()
	low, high, err := points.Ends(p)
	if len(want) == 0 {
		if len(low)+len(high) > 0 || err != api.ErrNone {
			t.Errorf("%v: Ends tells %v, %v, %d", p, low, high, err)
		}
		return
	}
	for k := range p.Box {
		var numbers []int
		for _, x := range want {
			numbers = append(numbers, x[k])
		}
		if err != api.OK || len(low) != len(p.Box) || len(high) != len(p.Box) || low[k] != slices.Min(numbers) || high[k] != slices.Max(numbers) {
			t.Fatalf("%v: Ends tells %v, %v, %d", p, low, high, err)
		}
	}
	if err != api.OK || len(low) != len(p.Box) || len(high) != len(p.Box) {
		t.Errorf("%v: Ends tells %v, %v, %d", p, low, high, err)
	}
}

// I2, I3: points written out.
func TestI3Points(t *testing.T) {
	wantAll(t, in(l(3, 3), row(0, -1, 1)), l(0, 0), l(0, 1), l(0, 2), l(1, 1), l(1, 2), l(2, 2))
	wantAll(t, in(l(3)), l(0), l(1), l(2))
	wantAll(t, in(l(1)), l(0))
	wantAll(t, in(l(2, 1, 3)), l(0, 0, 0), l(0, 0, 1), l(0, 0, 2), l(1, 0, 0), l(1, 0, 1), l(1, 0, 2))
	wantAll(t, in(l(2, 2, 1, 2), row(-1, 1, 1, 5, 0)), l(0, 1, 0, 0), l(0, 1, 0, 1), l(1, 0, 0, 0), l(1, 0, 0, 1), l(1, 1, 0, 0), l(1, 1, 0, 1))
	// 3x is at least 10, and 2x at most 15.
	wantAll(t, in(l(20), row(-10, 3), row(15, -2)), l(4), l(5), l(6), l(7))
	// Two rows that leave a line.
	wantAll(t, in(l(3, 5), row(0, -2, 1), row(0, 2, -1)), l(0, 0), l(1, 2), l(2, 4))
}

// I2: rows that no point keeps, that all keep, that just one does, at 0 and just below.
func TestI2WhatRowsKeep(t *testing.T) {
	wantAll(t, in(l(2, 2), row(-1, 0, 0)))
	wantAll(t, in(l(2, 2), row(0, 0, 0)), l(0, 0), l(0, 1), l(1, 0), l(1, 1))
	wantAll(t, in(l(2, 2), row(-3, 1, 1)))
	wantAll(t, in(l(2, 2), row(-2, 1, 1)), l(1, 1))
	wantAll(t, in(l(2, 2), row(0, -1, -1)), l(0, 0))
	wantAll(t, in(l(2, 2), row(-1, -1, -1)))
	wantAll(t, in(l(2, 2), row(-1, 1, -1)), l(1, 0))
	wantAll(t, in(l(2, 2), row(2, -1, -1)), l(0, 0), l(0, 1), l(1, 0), l(1, 1))
	wantAll(t, in(l(4), row(far, -far), row(-far, far)), l(1))
	wantAll(t, in(l(4), row(far-1, -far), row(-far, far)))
	wantAll(t, in(l(4096), row(-far, 256)))
	wantAll(t, in(l(4096), row(-far, 257)), byHand(in(l(4096), row(-4081, 1)))...)
	// The last of eight rows tells as much as the first one.
	wantAll(t, in(l(3), append(many(7, 1), row(-2, 1))...), l(2))
	wantAll(t, in(l(3), append([]api.Row{row(-2, 1)}, many(7, 1)...)...), l(2))
	// Numbers as great as they can be.
	wantAll(t, in(l(4096), row(-1, -far), row(0, far)))
	wantAll(t, in(l(2, 2, 2, 2), row(-far, far, far, far, far), row(far, -far, -far, -far, -far)), l(0, 0, 0, 1), l(0, 0, 1, 0), l(0, 1, 0, 0), l(1, 0, 0, 0))
}

// I2: a box without entries has the empty point, if no row is below 0.
func TestI2NoNumbers(t *testing.T) {
	for _, rows := range [][]api.Row{nil, {row(0)}, {row(far)}, {row(0), row(1), row(0)}, many(8, 0)} {
		wantAll(t, in(nil, rows...), l())
	}
	for _, rows := range [][]api.Row{{row(-1)}, {row(-far)}, {row(0), row(-1)}, {row(-1), row(0)}, append(many(7, 0), row(-1))} {
		wantAll(t, in(nil, rows...))
	}
}

// I2: a box with an entry of 0 has no points, and that is told at once.
func TestI2NoRoom(t *testing.T) {
	for _, box := range [][]int{l(0), l(0, 9), l(9, 0), l(0, 4096, 4096, 4096), l(4096, 0, 4096, 4096), l(4096, 4096, 0, 4096), l(4096, 4096, 4096, 0), l(0, 0, 0, 0)} {
		wantAll(t, in(box))
		wantAll(t, in(box, many(8, len(box))...))
		wantAll(t, in(box, row(-1, make([]int, len(box))...)))
	}
}

// I3: boxes as great as they can be.
func TestI3Great(t *testing.T) {
	for _, box := range [][]int{l(4096), l(64, 64), l(2, 2048), l(16, 16, 16), l(8, 8, 8, 8), l(1, 4096, 1, 1), l(4, 4, 4, 64)} {
		p := in(box)
		want := byHand(p)
		if len(want) != 4096 {
			t.Fatalf("%v: %d points", box, len(want))
		}
		if got := gathered(points.All(p)); !sameLists(got, want) {
			t.Errorf("%v: %d others come", box, len(got))
		}
		if got, err := points.Count(p); got != 4096 || err != api.OK {
			t.Errorf("%v: %d, %d comes", box, got, err)
		}
		last, err := points.Nth(p, 4095)
		if !slices.Equal(last, want[4095]) || err != api.OK {
			t.Errorf("%v: %v, %d comes", box, last, err)
		}
		if got, err := points.Nth(p, 4096); len(got) > 0 || err != api.ErrNone {
			t.Errorf("%v: %v, %d comes", box, got, err)
		}
		if got, err := points.Ahead(p, want[4095]); got != 4095 || err != api.OK {
			t.Errorf("%v: %d, %d comes", box, got, err)
		}
		wantEnds(t, p, want)
	}
}

// I1 to I3: dice-thrown points against their words.
func TestI3Dice(t *testing.T) {
	d := thrown(3)
	some := 0
	for range 600 {
		p := d.points(d.IntN(5), 8)
		if points.Wrong(p) != api.OK {
			continue
		}
		want := byHand(p)
		if len(want) > 0 {
			some++
		}
		if len(want) < 300 {
			wantAll(t, p, want...)
		}
	}
	if some < 150 {
		t.Errorf("just %d had points", some)
	}
}

// I3: Ahead of what is no point.
func TestI3AheadOfNone(t *testing.T) {
	p := in(l(3, 3), row(0, -1, 1))
	for _, c := range []struct {
		x    []int
		want api.Errno
	}{
		{nil, api.ErrShape}, {l(0), api.ErrShape}, {l(0, 0, 0), api.ErrShape}, {l(9), api.ErrShape}, {l(-1, -1, -1, -1, -1), api.ErrShape},
		{l(1, 0), api.ErrNone}, {l(2, 0), api.ErrNone}, {l(2, 1), api.ErrNone},
		{l(-1, 0), api.ErrNone}, {l(0, -1), api.ErrNone}, {l(0, 3), api.ErrNone}, {l(3, 3), api.ErrNone}, {l(2, 4), api.ErrNone}, {l(-1, 5), api.ErrNone},
		{l(least, most), api.ErrNone}, {l(most, most), api.ErrNone}, {l(0, 1<<32), api.ErrNone}, {l(1<<32, 1<<32), api.ErrNone},
	} {
		if got, err := points.Ahead(p, c.x); got != 0 || err != c.want {
			t.Errorf("%v: %d, %d comes, not %d", c.x, got, err, c.want)
		}
	}
	for _, empty := range []api.Points{in(l(0, 3)), in(l(3, 0)), in(l(2, 2), row(-1, 0, 0))} {
		if got, err := points.Ahead(empty, l(0, 0)); got != 0 || err != api.ErrNone {
			t.Errorf("%v: %d, %d comes", empty, got, err)
		}
		if got, err := points.Ahead(empty, l(0)); got != 0 || err != api.ErrShape {
			t.Errorf("%v: %d, %d comes", empty, got, err)
		}
	}
	if got, err := points.Ahead(in(nil, row(-1)), nil); got != 0 || err != api.ErrNone {
		t.Errorf("%d, %d comes", got, err)
	}
	if got, err := points.Ahead(in(nil, row(-1)), l(0)); got != 0 || err != api.ErrShape {
		t.Errorf("%d, %d comes", got, err)
	}
}

// I3: Ahead and the errors that it tells, for each list in and just around a box.
func TestI3AheadEverywhere(t *testing.T) {
	p := in(l(3, 4), row(-2, 1, 1), row(5, -2, 0))
	want := byHand(p)
	for a := -2; a < 6; a++ {
		for b := -2; b < 6; b++ {
			n := slices.IndexFunc(want, func(x []int) bool { return slices.Equal(x, l(a, b)) })
			got, err := points.Ahead(p, l(a, b))
			if n < 0 && (got != 0 || err != api.ErrNone) || n >= 0 && (got != n || err != api.OK) {
				t.Errorf("%d %d: %d, %d comes, not %d", a, b, got, err, n)
			}
		}
	}
}

// I3: Ends with one point, many and none, where the ends of one number come of other points than those of another.
func TestI3Ends(t *testing.T) {
	for _, c := range []struct {
		p         api.Points
		low, high []int
	}{
		{in(l(5), row(-3, 1), row(3, -1)), l(3), l(3)},
		{in(l(9), row(-3, 1), row(6, -1)), l(3), l(6)},
		{in(l(4, 4), row(-3, 1, 1), row(3, -1, -1)), l(0, 0), l(3, 3)},
		{in(l(4, 4), row(-5, 1, 1)), l(2, 2), l(3, 3)},
		{in(l(6, 6), row(-2, 1, 0), row(3, -1, 0), row(0, -1, 1), row(1, 1, -1)), l(2, 2), l(3, 4)},
		{in(nil), nil, nil},
		{in(nil, row(0)), nil, nil},
	} {
		low, high, err := points.Ends(c.p)
		if !slices.Equal(low, c.low) || !slices.Equal(high, c.high) || err != api.OK {
			t.Errorf("%v: %v, %v, %d comes, not %v, %v", c.p, low, high, err, c.low, c.high)
		}
	}
	for _, p := range []api.Points{in(l(0)), in(l(3, 0)), in(l(3, 3), row(-5, 1, 1)), in(nil, row(-1))} {
		if low, high, err := points.Ends(p); len(low)+len(high) > 0 || err != api.ErrNone {
			t.Errorf("%v: %v, %v, %d comes", p, low, high, err)
		}
	}
}

// I3, E2: each point is a list of its own, that the caller may change, with the room behind it, at any time.
func TestI3ListsOfTheirOwn(t *testing.T) {
	p := in(l(2, 3, 2), row(3, -1, -1, -1))
	want := byHand(p)
	all := points.All(p)
	var got, kept [][]int
	for x := range all {
		got, kept = append(got, slices.Clone(x)), append(kept, x)
		spoil(x, 7)
	}
	if !sameLists(got, want) {
		t.Errorf("what is told changes with what was told: %v", got)
	}
	for k, x := range kept {
		spoil(x, -k)
	}
	for k, x := range kept {
		if slices.ContainsFunc(x, func(n int) bool { return n != -k }) {
			t.Errorf("list %d shares room with another one", k)
		}
	}
	if again := gathered(all); !sameLists(again, want) {
		t.Errorf("the second time %v comes", again)
	}
}

// E2: when whoever goes through has said no, nothing more is told; and the next time all begins anew.
func TestE2NothingBehindANo(t *testing.T) {
	for _, p := range []api.Points{in(l(3, 3), row(0, -1, 1)), in(l(3)), in(nil), in(l(0))} {
		all, want := points.All(p), byHand(p)
		for stop := 1; stop <= len(want); stop++ {
			var got [][]int
			all(func(x []int) bool {
				got = append(got, x)
				return len(got) < stop
			})
			if !sameLists(got, want[:stop]) {
				t.Errorf("%v: %v comes until number %d", p, got, stop)
			}
		}
		if got := gathered(all); !sameLists(got, want) {
			t.Errorf("%v: behind a no %v comes", p, got)
		}
	}
}

// E2: one sequence may be gone through while it is gone through.
func TestE2OneInAnother(t *testing.T) {
	all := points.All(in(l(2, 2)))
	var got [][]int
	for x := range all {
		for y := range all {
			got = append(got, slices.Concat(x, y))
		}
	}
	if want := byHand(in(l(2, 2, 2, 2))); !sameLists(got, want) {
		t.Errorf("%v comes", got)
	}
}

// E1: a function that is none is told nothing.
func TestE1NobodyGoesThrough(t *testing.T) {
	for _, p := range []api.Points{in(nil), in(l(2)), in(l(0)), in(l(-1))} {
		points.All(p)(nil)
	}
}
