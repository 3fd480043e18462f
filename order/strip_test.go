package order_test

import (
	"slices"
	"testing"

	"adjoint/api"
	"adjoint/nest"
	"adjoint/order"
)

// line is a nest whose one statement copies, at each point of a line, from one array to another one.
func line(end int) api.Nest {
	return over(l(9, 9), do(api.DoCopy, in(l(end)), at(0, 1, 2), at(1, 8, -1)))
}

// strips is the same line in strips.
func strips(end, ahead, size int) api.Nest {
	return over(l(9, 9), do(api.DoCopy, in(l(ahead, size), row(end-1, -size, -1)), at(0, 1, 2*size, 2), at(1, 8, -size, -1)))
}

// O6: how many strips it takes, whether or not the last one is full.
func TestO6Strips(t *testing.T) {
	for _, c := range []struct{ end, size, ahead int }{
		{6, 1, 6}, {6, 2, 3}, {6, 3, 2}, {6, 4, 2}, {6, 5, 2}, {6, 6, 1}, {6, 7, 1}, {6, 4096, 1},
		{7, 1, 7}, {7, 2, 4}, {7, 3, 3}, {7, 4, 2}, {7, 6, 2}, {7, 7, 1}, {7, 8, 1}, {1, 1, 1}, {1, 2, 1}, {1, 4096, 1},
		{0, 1, 0}, {0, 2, 0}, {0, 4096, 0}, {4096, 1, 4096}, {4096, 64, 64}, {4096, 4096, 1}, {4095, 4095, 1}, {2048, 2, 1024}, {4095, 4096, 1},
	} {
		wantStrip(t, line(c.end), 0, 0, c.size, strips(c.end, c.ahead, c.size))
	}
}

// O6: the two numbers stand in the place of number k, in Box and in all rows; the last row is behind the others.
func TestO6EachNumber(t *testing.T) {
	n := over(l(7, 8),
		do(api.DoSet, in(l(2), row(1, -1)), at(0, 3, 1)),
		api.Stmt{Over: in(l(5, 6, 7), row(1, 2, 3, 4), row(-1, 0, -3, 5)), Do: api.DoPick, Value: 77, Put: at(1, 9, 10, 20, 30), Get: []api.Access{at(0, 1, -1, -2, -3), at(1, 2, 0, 0, 0), at(0, 3, 1, 0, 1)}},
		do(api.DoSet, in(nil), at(0, 0)))
	with := func(over api.Points, put api.Access, get ...api.Access) api.Nest {
		out := n
		out.Stmts = slices.Clone(n.Stmts)
		out.Stmts[1].Over, out.Stmts[1].Put, out.Stmts[1].Get = over, put, get
		return out
	}
	wantStrip(t, n, 1, 0, 2, with(in(l(3, 2, 6, 7), row(1, 4, 2, 3, 4), row(-1, 0, 0, -3, 5), row(4, -2, -1, 0, 0)), at(1, 9, 20, 10, 20, 30), at(0, 1, -2, -1, -2, -3), at(1, 2, 0, 0, 0, 0), at(0, 3, 2, 1, 0, 1)))
	wantStrip(t, n, 1, 1, 4, with(in(l(5, 2, 4, 7), row(1, 2, 12, 3, 4), row(-1, 0, -12, -3, 5), row(5, 0, -4, -1, 0)), at(1, 9, 10, 80, 20, 30), at(0, 1, -1, -8, -2, -3), at(1, 2, 0, 0, 0, 0), at(0, 3, 1, 0, 0, 1)))
	wantStrip(t, n, 1, 2, 3, with(in(l(5, 6, 3, 3), row(1, 2, 3, 12, 4), row(-1, 0, -3, 15, 5), row(6, 0, 0, -3, -1)), at(1, 9, 10, 20, 90, 30), at(0, 1, -1, -2, -9, -3), at(1, 2, 0, 0, 0, 0), at(0, 3, 1, 0, 3, 1)))
	wantStrip(t, n, 1, 2, 7, with(in(l(5, 6, 1, 7), row(1, 2, 3, 28, 4), row(-1, 0, -3, 35, 5), row(6, 0, 0, -7, -1)), at(1, 9, 10, 20, 210, 30), at(0, 1, -1, -2, -21, -3), at(1, 2, 0, 0, 0, 0), at(0, 3, 1, 0, 7, 1)))
	first := with(n.Stmts[1].Over, n.Stmts[1].Put, n.Stmts[1].Get...)
	first.Stmts[0] = do(api.DoSet, in(l(1, 3), row(1, -3, -1), row(1, -3, -1)), at(0, 3, 3, 1))
	wantStrip(t, n, 0, 0, 3, first)
}

// O6: statements, numbers and sizes that there are not.
func TestO6Wrong(t *testing.T) {
	n := over(l(9), do(api.DoSet, in(l(4)), at(0, 0, 1)), do(api.DoSet, in(nil), at(0, 0)), do(api.DoSet, in(l(2, 3)), at(0, 0, 3, 1)))
	for _, stmt := range l(least, -2, -1, 3, 4, most) {
		wantNoStrip(t, n, stmt, 0, 2, api.ErrRange)
	}
	for stmt, numbers := range l(1, 0, 2) {
		for _, k := range l(least, -2, -1, numbers, numbers+1, 4, most) {
			wantNoStrip(t, n, stmt, k, 2, api.ErrShape)
		}
		for k := range numbers {
			for _, size := range l(least, -4096, -1, 0, 4097, 1<<32, most) {
				wantNoStrip(t, n, stmt, k, size, api.ErrRange)
			}
		}
	}
	wantNoStrip(t, over(l(9)), 0, 0, 1, api.ErrRange)
	wantNoStrip(t, over(nil), 0, 0, 1, api.ErrRange)
}

// O6: what is wrong with the nest that comes of it is told.
func TestO6BecomesWrong(t *testing.T) {
	put := func(numbers int) api.Access { return at(0, 0, make([]int, numbers)...) }
	at1 := func(over api.Points) api.Stmt { return do(api.DoSet, over, put(len(over.Box))) }
	// Too many numbers: whatever else comes of it.
	four := over(l(9), at1(in(l(2, 2, 2, 2))))
	for k := range 4 {
		for _, size := range l(1, 2, 4096) {
			wantNoStrip(t, four, 0, k, size, api.ErrRank)
		}
	}
	if _, err := order.Strip(over(l(9), at1(in(l(2, 2, 2)))), 0, 2, 2); err != api.OK {
		t.Errorf("four numbers: %d comes", err)
	}
	// Too many points in the box, as its last strip is not full.
	for _, c := range []struct {
		box     []int
		k, size int
		want    api.Errno
	}{
		{l(4096), 0, 4095, api.ErrMuch}, {l(4096), 0, 3, api.ErrMuch}, {l(4096), 0, 2, api.OK}, {l(4095), 0, 2, api.OK}, {l(4095), 0, 4094, api.ErrMuch}, {l(64, 64), 1, 63, api.ErrMuch}, {l(64, 64), 0, 65, api.ErrMuch}, {l(64, 63), 1, 64, api.OK}, {l(2, 3), 0, 4096, api.ErrMuch}, {l(2, 0), 0, 4096, api.OK}, {l(0, 4096), 1, 4095, api.OK}, {l(0, 4096), 0, 4096, api.OK},
	} {
		n := over(l(9), at1(in(c.box)))
		if c.want != api.OK {
			wantNoStrip(t, n, 0, c.k, c.size, c.want)
		} else if _, err := order.Strip(n, 0, c.k, c.size); err != api.OK {
			t.Errorf("%v, number %d in strips of %d: %d comes", c.box, c.k, c.size, err)
		}
	}
	// One row too many.
	for many, want := range map[int]api.Errno{7: api.OK, 8: api.ErrMany} {
		n := over(l(9), at1(in(l(4), slices.Repeat([]api.Row{row(3, -1)}, many)...)))
		if _, err := order.Strip(n, 0, 0, 2); err != want {
			t.Errorf("with %d rows %d comes, not %d", many, err, want)
		}
	}
}

// O6: a Coef times size may be beyond what it may be, in each of the rows.
func TestO6CoefsBecomeTooGreat(t *testing.T) {
	fine := over(l(9), do(api.DoPick, in(l(1, 1), row(0, 0, 0), row(0, 0, 0)), at(0, 0, 0, 0), at(0, 0, 0, 0), at(0, 0, 0, 0), at(0, 0, 0, 0)))
	places := []func(s *api.Stmt) *api.Row{
		func(s *api.Stmt) *api.Row { return &s.Over.Rows[0] }, func(s *api.Stmt) *api.Row { return &s.Over.Rows[1] }, func(s *api.Stmt) *api.Row { return &s.Put.At },
		func(s *api.Stmt) *api.Row { return &s.Get[0].At }, func(s *api.Stmt) *api.Row { return &s.Get[1].At }, func(s *api.Stmt) *api.Row { return &s.Get[2].At },
	}
	for _, place := range places {
		for _, c := range []struct {
			coef, size int
			want       api.Errno
		}{
			{far, 1, api.OK}, {-far, 1, api.OK}, {far, 2, api.ErrRange}, {-far, 2, api.ErrRange}, {far / 2, 2, api.OK}, {-far / 2, 2, api.OK}, {far/2 + 1, 2, api.ErrRange}, {-far/2 - 1, 2, api.ErrRange}, {256, 4096, api.OK}, {-256, 4096, api.OK}, {257, 4096, api.ErrRange}, {-257, 4096, api.ErrRange}, {far, 4096, api.ErrRange},
		} {
			n := over(l(9), remade(fine.Stmts[0]))
			place(&n.Stmts[0]).Coef[1] = c.coef
			if _, err := order.Strip(n, 0, 1, c.size); err != c.want {
				t.Errorf("%s in strips of %d: %d comes, not %d", show(n), c.size, err, c.want)
			}
			// Of another number nothing becomes greater.
			if _, err := order.Strip(n, 0, 0, c.size); err != api.OK {
				t.Errorf("%s in strips of %d: %d comes", show(n), c.size, err)
			}
		}
	}
}

// remade is a statement of which each row is its own.
func remade(s api.Stmt) api.Stmt {
	own := func(r api.Row) api.Row { return row(r.Const, slices.Clone(r.Coef)...) }
	s.Over.Rows, s.Get = slices.Clone(s.Over.Rows), slices.Clone(s.Get)
	for k := range s.Over.Rows {
		s.Over.Rows[k] = own(s.Over.Rows[k])
	}
	s.Put.At = own(s.Put.At)
	for k := range s.Get {
		s.Get[k].At = own(s.Get[k].At)
	}
	return s
}

// O6, E4: which error comes first.
func TestO6WhichErrorFirst(t *testing.T) {
	wrong := over(l(9), do(0, in(l(4)), at(0, 0, 1)))
	fine := over(l(9), do(api.DoSet, in(l(4)), at(0, 0, 1)))
	full := over(l(9), do(api.DoSet, in(l(2, 2, 2, 2), slices.Repeat([]api.Row{row(0, 0, 0, 0, 0)}, 8)...), at(0, 0, far, 0, 0, 0)))
	for _, stmt := range l(-1, 0, 1) {
		for _, k := range l(-1, 0, 1) {
			for _, size := range l(0, 2, 4097) {
				wantNoStrip(t, wrong, stmt, k, size, api.ErrKind)
				switch {
				case stmt != 0:
					wantNoStrip(t, fine, stmt, k, size, api.ErrRange)
				case k != 0:
					wantNoStrip(t, fine, stmt, k, size, api.ErrShape)
				case size != 2:
					wantNoStrip(t, fine, stmt, k, size, api.ErrRange)
				}
			}
		}
	}
	wantNoStrip(t, full, 0, 4, 0, api.ErrShape)
	wantNoStrip(t, full, 0, 0, 0, api.ErrRange)
	wantNoStrip(t, full, 0, 0, 4096, api.ErrRank)
	full.Stmts[0] = do(api.DoSet, in(l(2, 2, 2), slices.Repeat([]api.Row{row(0, far, 0, 0)}, 8)...), at(0, 0, far, 0, 0))
	wantNoStrip(t, full, 0, 0, 4096, api.ErrMuch)
	wantNoStrip(t, full, 0, 0, 2, api.ErrMany)
	full.Stmts[0].Over.Rows = full.Stmts[0].Over.Rows[:7]
	wantNoStrip(t, full, 0, 0, 2, api.ErrRange)
	wantNoStrip(t, over(l(-1), full.Stmts...), 0, 0, 1, api.ErrRange)
}

// O6: a stripped nest does what it did, whatever lies in memory; stripped again too.
func TestAStrippedNestDoesWhatItDid(t *testing.T) {
	d := thrown(6)
	done := 0
	for range 3000 {
		n := d.nest()
		if len(n.Stmts) == 0 {
			continue
		}
		given := d.given(n)
		want, _ := nest.Run(n, given)
		now := n
		for range 3 {
			stmt := d.IntN(len(n.Stmts))
			next, err := order.Strip(now, stmt, d.IntN(4), d.of(1, 2, 3, 4, 5, 20))
			if err != api.OK {
				continue
			}
			now = next
			if len(pointsByHand(now.Stmts[stmt].Over)) != len(pointsByHand(n.Stmts[stmt].Over)) {
				t.Fatalf("%s becomes %s, with other points", show(n), show(now))
			}
			done++
		}
		got, err := nest.Run(now, given)
		if err != api.OK || !same(got, want) {
			t.Fatalf("%s becomes %s: %v, %d comes, not %v", show(n), show(now), got, err, want)
		}
	}
	if done < 2000 {
		t.Errorf("%d were stripped", done)
	}
}

// O6: the points of a stripped statement are those that it had, in the same order: each strip's number times size, and where in it.
func TestStrippedPointsStandAsTheyDid(t *testing.T) {
	d := thrown(7)
	for range 2000 {
		n := d.nest()
		for stmt, s := range n.Stmts {
			for k := range s.Over.Box {
				size := d.of(1, 2, 3, 7)
				got, err := order.Strip(n, stmt, k, size)
				if err != api.OK {
					continue
				}
				var back [][]int
				for _, x := range pointsByHand(got.Stmts[stmt].Over) {
					x[k+1] += size * x[k]
					back = append(back, slices.Delete(x, k, k+1))
				}
				if !slices.EqualFunc(back, pointsByHand(s.Over), slices.Equal[[]int]) {
					t.Fatalf("%s: number %d of statement %d in strips of %d: points %v", show(n), k, stmt, size, back)
				}
			}
		}
	}
}

// O4, O6: strips let go through tiles: number 1 in strips, and the strips ahead of number 0. What each gets from is in the tile, or in those ahead of it.
func TestTiles(t *testing.T) {
	sum := do(api.DoAdd, in(l(5, 5)), at(0, 0, 5, 1), at(0, -5, 5, 1), at(0, -1, 5, 1))
	n := over(l(25), sum)
	tiled, err := order.Strip(n, 0, 1, 2)
	if err != api.OK {
		t.Fatal(err)
	}
	times := api.Times{rows(row(0, 0, 1, 0), row(0, 1, 0, 0), row(0, 0, 0, 1))}
	// A row's first number gets from the last one of the row ahead, so strips may not go ahead of rows.
	legal := legalByHand(tiled, times)
	if !legal.Any {
		t.Fatal("nothing is found by hand")
	}
	wantPairs(t, tiled, times, legal, none)
	// With a row of noughts ahead of each row they may.
	sum = do(api.DoAdd, in(l(5, 5)), at(0, 7, 6, 1), at(0, 1, 6, 1), at(0, 6, 6, 1))
	n = over(l(36), sum)
	tiled, _ = order.Strip(n, 0, 1, 2)
	given := mem(thrown(8).numbers(36))
	want, _ := nest.Run(n, given)
	wantNoPairs(t, tiled, times, api.OK)
	wantRun(t, tiled, times, given, nil, want...)
	wantRun(t, tiled, times, given, l(3, -1), want...)
}
