package nest_test

import (
	"slices"
	"testing"

	"adjoint/api"
	"adjoint/nest"
)

// fine is a right statement of a kind over arrays of which there is at least one, at points of so many numbers.
func fine(what, numbers int) api.Stmt {
	access := at(0, 0, make([]int, numbers)...)
	return do(what, in(slices.Repeat(l(2), numbers)), access, slices.Repeat([]api.Access{access}, many(what))...)
}

// N2: a nest without statements, without arrays, with both.
func TestN2Right(t *testing.T) {
	wantWrong(t, over(nil), api.OK)
	wantWrong(t, over(l(0, 1, 65536)), api.OK)
	for _, what := range all() {
		for numbers := range 5 {
			wantWrong(t, over(l(3), fine(what, numbers)), api.OK)
			wantWrong(t, over(nil, fine(what, numbers)), api.ErrRange)
		}
	}
}

// N2: as many statements as there may be, and one more.
func TestN2HowManyStatements(t *testing.T) {
	for _, how := range l(1, 255, 256) {
		wantWrong(t, over(l(3), slices.Repeat([]api.Stmt{fine(api.DoMac, 1)}, how)...), api.OK)
	}
	for _, how := range l(257, 258, 1000) {
		wantWrong(t, over(l(3), slices.Repeat([]api.Stmt{fine(api.DoMac, 1)}, how)...), api.ErrMany)
		wantWrong(t, over(nil, make([]api.Stmt, how)...), api.ErrMany)
	}
}

// N2: Sizes are from 0 to MaxSize, each of them.
func TestN2Sizes(t *testing.T) {
	for _, size := range l(0, 1, 2, 65535, 65536) {
		wantWrong(t, over(l(size), fine(api.DoCopy, 1)), api.OK)
		wantWrong(t, over(l(3, size, 4), fine(api.DoCopy, 1)), api.OK)
	}
	for _, size := range l(least, -65536, -2, -1, 65537, 1<<32, most) {
		for _, sizes := range [][]int{l(size), l(size, 3), l(3, size), l(3, 3, size), l(size, size)} {
			wantWrong(t, over(sizes), api.ErrRange)
			wantWrong(t, over(sizes, fine(api.DoCopy, 1)), api.ErrRange)
		}
	}
	// There is no bound on how many there are.
	wantWrong(t, over(make([]int, 5000), do(api.DoCopy, in(nil), at(4999, 0), at(4998, 0))), api.OK)
}

// N2: what is wrong with points is told.
func TestN2Points(t *testing.T) {
	for _, c := range []struct {
		over api.Points
		want api.Errno
	}{
		{in(l(1, 1, 1, 1, 1)), api.ErrRank}, {in(l(-1)), api.ErrRange}, {in(l(4097)), api.ErrRange}, {in(l(9999)), api.ErrRange}, {in(l(64, 65)), api.ErrMuch},
		{in(l(1), slices.Repeat([]api.Row{row(0, 1)}, 9)...), api.ErrMany}, {in(l(1), row(0)), api.ErrShape}, {in(l(1), row(0, 1, 1)), api.ErrShape}, {in(l(1), row(far+1, 1)), api.ErrRange}, {in(l(1), row(0, -far-1)), api.ErrRange},
	} {
		for _, what := range all() {
			s := fine(what, len(c.over.Box))
			s.Over = c.over
			wantWrong(t, over(l(3), s), c.want)
			wantWrong(t, over(l(3), fine(what, 1), s), c.want)
		}
	}
	for _, p := range []api.Points{in(l(4096)), in(l(64, 64)), in(l(0, 4096, 4096)), in(l(8, 8, 8, 8), row(far, far, far, far, far), row(-far, -far, -far, -far, -far)), in(l(1), slices.Repeat([]api.Row{row(0, 1)}, 8)...)} {
		s := fine(api.DoMore, len(p.Box))
		s.Over = p
		wantWrong(t, over(l(3), s), api.OK)
	}
}

// N2: kinds that are none.
func TestN2Kinds(t *testing.T) {
	for _, what := range l(least, -1, 0, 11, 12, 19, most) {
		for gets := range 5 {
			s := fine(api.DoSet, 1)
			s.Do, s.Get = what, slices.Repeat([]api.Access{at(0, 0, 0)}, gets)
			wantWrong(t, over(l(3), s), api.ErrKind)
		}
	}
}

// N2: each kind gets just so many numbers.
func TestN2HowManyGets(t *testing.T) {
	for _, what := range all() {
		for gets := range 6 {
			s := fine(what, 2)
			s.Get = slices.Repeat([]api.Access{at(0, 0, 0, 0)}, gets)
			want := api.ErrMany
			if gets == many(what) {
				want = api.OK
			}
			wantWrong(t, over(l(3), s), want)
		}
	}
}

// places are the accesses of a statement.
func places(s *api.Stmt) []*api.Access {
	out := []*api.Access{&s.Put}
	for k := range s.Get {
		out = append(out, &s.Get[k])
	}
	return out
}

// each hands on a right statement of each kind, and each of its accesses.
func each(numbers int, ask func(s *api.Stmt, a *api.Access)) {
	for _, what := range all() {
		for k := range many(what) + 1 {
			s := fine(what, numbers)
			ask(&s, places(&s)[k])
		}
	}
}

// N2: an access is to an array that there is.
func TestN2Arrays(t *testing.T) {
	each(1, func(s *api.Stmt, a *api.Access) {
		for _, a.Array = range l(0, 1, 2) {
			wantWrong(t, over(l(3, 0, 7), *s), api.OK)
		}
		for _, a.Array = range l(least, -3, -1, 3, 4, most) {
			wantWrong(t, over(l(3, 0, 7), *s), api.ErrRange)
		}
	})
}

// N2: the row of an access is one over the points' numbers.
func TestN2Rows(t *testing.T) {
	for numbers := range 5 {
		each(numbers, func(s *api.Stmt, a *api.Access) {
			for coefs := range 7 {
				a.At = row(0, make([]int, coefs)...)
				want := api.ErrShape
				if coefs == numbers {
					want = api.OK
				}
				wantWrong(t, over(l(3), *s), want)
			}
			for _, n := range l(-far, 1-far, far-1, far) {
				a.At = row(n, slices.Repeat(l(n), numbers)...)
				wantWrong(t, over(l(3), *s), api.OK)
			}
			for _, n := range l(least, -1<<32, -far-1, far+1, 1<<32, most) {
				a.At = row(n, make([]int, numbers)...)
				wantWrong(t, over(l(3), *s), api.ErrRange)
				for k := range numbers {
					a.At = row(0, make([]int, numbers)...)
					a.At.Coef[k] = n
					wantWrong(t, over(l(3), *s), api.ErrRange)
				}
			}
		})
	}
}

// E4: of all that is wrong the first one is told, in the order of N2, however it is put together.
func TestE4WhichErrorFirst(t *testing.T) {
	steps := []struct {
		want  api.Errno
		spoil func(n *api.Nest)
	}{
		{api.ErrMany, func(n *api.Nest) { n.Stmts = append(n.Stmts, make([]api.Stmt, 256)...) }},
		{api.ErrRange, func(n *api.Nest) { n.Sizes[1] = -1 }},
		{api.ErrMuch, func(n *api.Nest) { n.Stmts[0].Over.Box = l(65, 64) }},
		{api.ErrKind, func(n *api.Nest) { n.Stmts[0].Do = 11 }},
		{api.ErrMany, func(n *api.Nest) { n.Stmts[0].Get = append(n.Stmts[0].Get, at(0, 0, 0, 0), at(0, 0, 0, 0)) }},
		{api.ErrRange, func(n *api.Nest) { n.Stmts[0].Put.Array = 2 }},
		{api.ErrShape, func(n *api.Nest) { n.Stmts[0].Put.At.Coef = l(1) }},
		{api.ErrRange, func(n *api.Nest) { n.Stmts[0].Get[0].Array = -1 }},
		{api.ErrShape, func(n *api.Nest) { n.Stmts[0].Get[0].At.Coef = l(1, 2, 3) }},
		{api.ErrRange, func(n *api.Nest) { n.Stmts[0].Get[1].At.Const = far + 1 }},
		{api.ErrRank, func(n *api.Nest) { n.Stmts[1].Over.Box = l(1, 1, 1, 1, 1) }},
		{api.ErrKind, func(n *api.Nest) { n.Stmts[1].Do = 0 }},
	}
	for set := range 1 << len(steps) {
		n := over(l(3, 4), fine(api.DoMac, 2), fine(api.DoCopy, 1))
		want := api.OK
		for k := range steps {
			if set>>k&1 == 1 {
				steps[k].spoil(&n)
				if want == api.OK {
					want = steps[k].want
				}
			}
		}
		if got := nest.Wrong(n); got != want {
			t.Fatalf("%s: %d comes, not %d", show(n), got, want)
		}
	}
}

// N2: of one access the array is looked at ahead of the row, and of a row how many Coefs there are.
func TestE4WhichOfOneAccess(t *testing.T) {
	each(2, func(s *api.Stmt, a *api.Access) {
		*a = at(0, far+1, 0)
		wantWrong(t, over(l(3), *s), api.ErrShape)
		*a = at(1, 0, 0)
		wantWrong(t, over(l(3), *s), api.ErrRange)
		for _, other := range places(s) {
			if other != a {
				*a, *other = at(0, 0, 0), at(0, far+1, 0, 0)
				want := api.ErrShape
				// Those of Get stand behind Put, one behind the other.
				if slices.Index(places(s), other) < slices.Index(places(s), a) {
					want = api.ErrRange
				}
				wantWrong(t, over(l(3), *s), want)
				*other = at(0, 0, 0, 0)
			}
		}
	})
}

// N2: dice-thrown nests are wrong just as its words say.
func TestN2Dice(t *testing.T) {
	d := thrown(2)
	seen := map[api.Errno]int{}
	for range 20000 {
		n := d.nest()
		for range d.of(0, 1, 1, 2, 3) {
			d.spoil(&n)
		}
		want := wrongByHand(n)
		seen[want]++
		if got := nest.Wrong(n); got != want {
			t.Fatalf("%s: %d comes, not %d", show(n), got, want)
		}
	}
	if len(seen) != 7 {
		t.Errorf("just these came: %v", seen)
	}
}

// spoil changes one thing in a nest.
func (d dice) spoil(n *api.Nest) {
	if len(n.Stmts) == 0 || d.IntN(20) == 0 {
		n.Sizes[d.IntN(len(n.Sizes))] = d.of(-1, 65536, 65537)
		return
	}
	s := &n.Stmts[d.IntN(len(n.Stmts))]
	a := places(s)[d.IntN(len(s.Get)+1)]
	switch d.IntN(7) {
	case 0:
		s.Over.Box = append(s.Over.Box, d.of(1, 1, -1, 4096, 4097))
	case 1:
		s.Do = d.of(0, -1, 11, 1, 2, 10)
	case 2:
		s.Get = append(s.Get, s.Put)[d.IntN(2):]
	case 3:
		a.Array = d.of(-1, 0, len(n.Sizes)-1, len(n.Sizes))
	case 4:
		a.At.Coef = append(slices.Clone(a.At.Coef), d.of(0, far+1))[d.IntN(2):]
	case 5:
		a.At.Const = d.of(-far-1, -far, far, far+1)
	case 6:
		s.Over.Rows = append(s.Over.Rows, d.row(len(s.Over.Box)))
	}
}

// wrongPointsByHand is what is wrong with points, by the words of I1 and I2.
func wrongPointsByHand(p api.Points) api.Errno {
	if len(p.Box) > 4 {
		return api.ErrRank
	}
	product := 1
	for _, end := range p.Box {
		if !(0 <= end && end <= 4096) {
			return api.ErrRange
		}
		product *= end
	}
	if product > 4096 {
		return api.ErrMuch
	}
	if len(p.Rows) > 8 {
		return api.ErrMany
	}
	for _, r := range p.Rows {
		if err := wrongRowByHand(r, len(p.Box)); err != api.OK {
			return err
		}
	}
	return api.OK
}

// wrongRowByHand is what is wrong with a row, by the words of I1.
func wrongRowByHand(r api.Row, numbers int) api.Errno {
	if len(r.Coef) != numbers {
		return api.ErrShape
	}
	for _, n := range append(l(r.Const), r.Coef...) {
		if !(-1048576 <= n && n <= 1048576) {
			return api.ErrRange
		}
	}
	return api.OK
}

// wrongByHand is Wrong by the words of N2.
func wrongByHand(n api.Nest) api.Errno {
	if len(n.Stmts) > 256 {
		return api.ErrMany
	}
	for _, size := range n.Sizes {
		if !(0 <= size && size <= 65536) {
			return api.ErrRange
		}
	}
	for _, s := range n.Stmts {
		if err := wrongPointsByHand(s.Over); err != api.OK {
			return err
		}
		if !(1 <= s.Do && s.Do <= 10) {
			return api.ErrKind
		}
		if len(s.Get) != many(s.Do) {
			return api.ErrMany
		}
		for _, a := range append([]api.Access{s.Put}, s.Get...) {
			if !(0 <= a.Array && a.Array < len(n.Sizes)) {
				return api.ErrRange
			}
			if err := wrongRowByHand(a.At, len(s.Over.Box)); err != api.OK {
				return err
			}
		}
	}
	return api.OK
}
