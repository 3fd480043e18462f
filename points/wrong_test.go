package points_test

import (
	"slices"
	"testing"

	"adjoint/api"
	"adjoint/points"
)

// I1: a row has a Coef for each number.
func TestI1HowManyCoefs(t *testing.T) {
	for entries := range 5 {
		box := slices.Repeat(l(2), entries)
		for coefs := range 8 {
			want := api.ErrShape
			if coefs == entries {
				want = api.OK
			}
			wantWrong(t, in(box, row(0, make([]int, coefs)...)), want)
			wantWrong(t, in(box, many(1, entries)[0], row(1, make([]int, coefs)...)), want)
		}
	}
}

// I1: Const and all Coefs are from -MaxCoef to MaxCoef.
func TestI1HowFar(t *testing.T) {
	for _, n := range l(-far, 1-far, -1, 0, 1, far-1, far) {
		wantWrong(t, in(nil, row(n)), api.OK)
		wantWrong(t, in(l(2), row(n, n)), api.OK)
		wantWrong(t, in(l(2, 2, 2, 2), row(n, n, n, n, n)), api.OK)
	}
	for _, n := range l(least, least+1, -1<<32, -far-1, far+1, 1<<32, most-1, most) {
		wantWrong(t, in(nil, row(n)), api.ErrRange)
		for entries := range 5 {
			box := slices.Repeat(l(2), entries)
			wantWrong(t, in(box, row(n, make([]int, entries)...)), api.ErrRange)
			for k := range entries {
				coefs := make([]int, entries)
				coefs[k] = n
				wantWrong(t, in(box, row(0, coefs...)), api.ErrRange)
			}
		}
	}
}

// I2: how many entries a box may have, and how great they and their product may be.
func TestI2Boxes(t *testing.T) {
	for _, box := range [][]int{
		nil, l(0), l(1), l(4095), l(4096), l(0, 0), l(64, 64), l(1, 4096), l(4096, 1), l(63, 65), l(17, 240), l(16, 16, 16), l(8, 8, 8, 8), l(1, 1, 1, 1), l(1, 1, 4096, 1),
		l(0, 4096), l(4096, 0), l(4096, 4096, 0), l(4096, 0, 4096), l(0, 4096, 4096, 4096), l(4096, 4096, 0, 4096), l(4096, 4096, 4096, 0), l(0, 0, 0, 0),
	} {
		wantWrong(t, in(box), api.OK)
	}
	for _, box := range [][]int{l(1, 1, 1, 1, 1), l(0, 0, 0, 0, 0), l(1, 1, 1, 1, 1, 1), l(4096, 4096, 4096, 4096, 4096), slices.Repeat(l(1), 1000)} {
		wantWrong(t, in(box), api.ErrRank)
	}
	for _, n := range l(least, -4097, -1, 4097, 1<<32, 1<<62, most) {
		for entries := 1; entries <= 4; entries++ {
			for k := range entries {
				for _, other := range l(0, 1) {
					box := slices.Repeat(l(other), entries)
					box[k] = n
					wantWrong(t, in(box), api.ErrRange)
				}
			}
		}
	}
	for _, box := range [][]int{l(17, 241), l(65, 64), l(64, 65), l(2, 4096), l(4096, 2), l(8, 8, 8, 9), l(1, 1, 3, 1366), l(4096, 4096), l(4096, 4096, 4096), l(4096, 4096, 4096, 4096)} {
		wantWrong(t, in(box), api.ErrMuch)
	}
}

// I2: how many rows there may be.
func TestI2HowManyRows(t *testing.T) {
	for entries := range 5 {
		box := slices.Repeat(l(3), entries)
		for _, rows := range l(0, 1, 7, 8) {
			wantWrong(t, in(box, many(rows, entries)...), api.OK)
		}
		for _, rows := range l(9, 10, 100) {
			wantWrong(t, in(box, many(rows, entries)...), api.ErrMany)
		}
	}
}

// I2: of the rows the first one that is not right is told, and of one row ErrShape first.
func TestI2WhichRow(t *testing.T) {
	fine, short, beyond := row(0, 1, 1), row(0, 1), row(far+1, 1, 1)
	for _, c := range []struct {
		rows []api.Row
		want api.Errno
	}{
		{[]api.Row{fine, short, beyond}, api.ErrShape},
		{[]api.Row{fine, beyond, short}, api.ErrRange},
		{[]api.Row{beyond, short}, api.ErrRange},
		{[]api.Row{short, beyond}, api.ErrShape},
		{[]api.Row{row(far+1, 1)}, api.ErrShape},
		{[]api.Row{row(0, far+1)}, api.ErrShape},
		{[]api.Row{row(-far-1, 1, far+1, 1)}, api.ErrShape},
		{append(many(7, 2), short), api.ErrShape},
		{append(many(7, 2), beyond), api.ErrRange},
	} {
		wantWrong(t, in(l(2, 2), c.rows...), c.want)
	}
}

// E4: of all that is wrong the first one is told, in the order of I2.
func TestE4WhichErrorFirst(t *testing.T) {
	order := []api.Errno{api.ErrRank, api.ErrRange, api.ErrMuch, api.ErrMany, api.ErrShape}
	for set := range 1 << len(order) {
		want := api.OK
		has := func(err api.Errno) bool { return set>>slices.Index(order, err)&1 == 1 }
		if k := slices.IndexFunc(order, has); k >= 0 {
			want = order[k]
		}
		p := in(l(2, 2))
		if has(api.ErrRank) {
			p.Box = l(2, 2, 1, 1, 1)
		}
		if has(api.ErrRange) {
			p.Box[0] = -1
		}
		if has(api.ErrMuch) {
			p.Box[1] = 4096
		}
		if has(api.ErrMuch) && has(api.ErrRange) {
			p.Box[0] = 4097
		}
		if has(api.ErrMany) {
			p.Rows = many(9, len(p.Box))
		}
		if has(api.ErrShape) {
			p.Rows = append([]api.Row{row(0, 1, 1, 1)}, p.Rows...)
		}
		wantWrong(t, p, want)
	}
	for _, box := range [][]int{l(-1, -1), l(-4096, -4096), l(0, -1), l(0, 4097), l(4097, 0), l(4096, 4096, -1), l(-1, 4096, 4096)} {
		wantWrong(t, in(box), api.ErrRange)
	}
}

// I2: dice-thrown descriptions are wrong just as its words say.
func TestI2Dice(t *testing.T) {
	d := thrown(2)
	seen := map[api.Errno]int{}
	for range 20000 {
		p := d.points(d.IntN(6), 9)
		if len(p.Box) > 0 && d.IntN(4) == 0 {
			p.Box[d.IntN(len(p.Box))] = d.of(-1, 1024, 4096, 4097)
		}
		if len(p.Rows) > 0 && d.IntN(4) == 0 {
			r := &p.Rows[d.IntN(len(p.Rows))]
			r.Coef = append(r.Coef, d.of(0, far, far+1))[d.IntN(2):]
		}
		if len(p.Rows) > 0 && d.IntN(4) == 0 {
			p.Rows[d.IntN(len(p.Rows))].Const = d.of(-far-1, far+1)
		}
		want := wrongByHand(p)
		seen[want]++
		if got := points.Wrong(p); got != want {
			t.Fatalf("%v: %d comes, not %d", p, got, want)
		}
	}
	if len(seen) != 6 {
		t.Errorf("just these came: %v", seen)
	}
}

// wrongByHand is Wrong by the words of I1 and I2.
func wrongByHand(p api.Points) api.Errno {
	if len(p.Box) > 4 {
		return api.ErrRank
	}
	product := 1
	for _, end := range p.Box {
		if !(0 <= end && end <= 4096) {
			return api.ErrRange
		}
		product *= end
	}
	switch {
	case product > 4096:
		return api.ErrMuch
	case len(p.Rows) > 8:
		return api.ErrMany
	}
	for _, r := range p.Rows {
		if len(r.Coef) != len(p.Box) {
			return api.ErrShape
		}
		for _, n := range append(l(r.Const), r.Coef...) {
			if !(-1048576 <= n && n <= 1048576) {
				return api.ErrRange
			}
		}
	}
	return api.OK
}
