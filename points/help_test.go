package points_test

import (
	"iter"
	"math"
	"math/rand/v2"
	"slices"
	"testing"

	"adjoint/api"
	"adjoint/points"
)

const (
	far   = 1 << 20 // the greatest Coef
	most  = math.MaxInt
	least = math.MinInt
)

// l is a list.
func l(numbers ...int) []int { return numbers }

// row is a row.
func row(constant int, coefs ...int) api.Row { return api.Row{Coef: coefs, Const: constant} }

// in are the points of a box above rows.
func in(box []int, rows ...api.Row) api.Points { return api.Points{Box: box, Rows: rows} }

// many are so many rows that keep all points.
func many(rows, numbers int) []api.Row {
	return slices.Repeat([]api.Row{{Coef: make([]int, numbers)}}, rows)
}

// byHand are all points by the words of I2, made without the package: lists one number longer each time, in order.
func byHand(p api.Points) [][]int {
	if slices.Contains(p.Box, 0) {
		return nil
	}
	all := [][]int{{}}
	for _, end := range p.Box {
		var longer [][]int
		for _, x := range all {
			for n := 0; n < end; n++ {
				longer = append(longer, append(slices.Clone(x), n))
			}
		}
		all = longer
	}
	return slices.DeleteFunc(all, func(x []int) bool {
		for _, r := range p.Rows {
			if number(r, x) < 0 {
				return true
			}
		}
		return false
	})
}

// number is a row's number by the words of I1.
func number(r api.Row, x []int) int {
	n := r.Const
	for k := range x {
		n += r.Coef[k] * x[k]
	}
	return n
}

// gathered are all lists that a sequence tells.
func gathered(all iter.Seq[[]int]) [][]int {
	var out [][]int
	for x := range all {
		out = append(out, x)
	}
	return out
}

// sameLists tells whether two lists of lists are alike.
func sameLists(a, b [][]int) bool { return slices.EqualFunc(a, b, slices.Equal[[]int]) }

// wantWrong: each call tells this, and nothing else, whatever else it is given.
func wantWrong(t *testing.T, p api.Points, want api.Errno) {
	t.Helper()
	if got := points.Wrong(p); got != want {
		t.Errorf("%v: Wrong tells %d, not %d", p, got, want)
	}
	if want == api.OK {
		return
	}
	for x := range points.All(p) {
		t.Errorf("%v: All tells %v", p, x)
	}
	if got, err := points.Count(p); got != 0 || err != want {
		t.Errorf("%v: Count tells %d, %d, not %d", p, got, err, want)
	}
	for _, n := range l(-1, 0, 1, most) {
		if got, err := points.Nth(p, n); len(got) > 0 || err != want {
			t.Errorf("%v: Nth tells %v, %d, not %d", p, got, err, want)
		}
	}
	for _, x := range [][]int{nil, l(0), l(-1), l(0, 0), l(9, 9, 9, 9, 9), make([]int, len(p.Box))} {
		if got, err := points.Ahead(p, x); got != 0 || err != want {
			t.Errorf("%v: Ahead tells %d, %d, not %d", p, got, err, want)
		}
	}
	if low, high, err := points.Ends(p); len(low)+len(high) > 0 || err != want {
		t.Errorf("%v: Ends tells %v, %v, %d, not %d", p, low, high, err, want)
	}
	if got, err := points.Loops(p); len(got) > 0 || err != want {
		t.Errorf("%v: Loops tells %v, %d, not %d", p, got, err, want)
	}
}

// dice are thrown the same way each time.
type dice struct{ *rand.Rand }

func thrown(seed uint64) dice { return dice{rand.New(rand.NewPCG(9, seed))} }

func (d dice) of(all ...int) int { return all[d.IntN(len(all))] }

// box is one of so many entries, small ones or, now and then, a long one.
func (d dice) box(entries int) []int {
	box := make([]int, entries)
	for k := range box {
		box[k] = d.of(1, 2, 3, 4, 5, 6)
		if d.IntN(40) == 0 {
			box[k] = 0
		}
	}
	if entries > 0 && d.IntN(8) == 0 {
		for k := range box {
			box[k] = d.of(1, 1, 2)
		}
		box[d.IntN(entries)] = d.of(17, 64, 200)
	}
	return box
}

// row is one over so many numbers, of which some points are above, if it goes well.
func (d dice) row(numbers int) api.Row {
	r := api.Row{Coef: make([]int, numbers), Const: d.IntN(21) - 8}
	hangs := d.IntN(numbers + 1)
	for k := range hangs {
		r.Coef[k] = d.of(-7, -5, -3, -2, -1, 0, 0, 1, 2, 3, 5, 7)
	}
	if d.IntN(10) == 0 {
		r.Const = d.of(-far, 1-far, far-1, far)
		for k := range hangs {
			r.Coef[k] = d.of(-far, 1-far, -far/3, 0, far/3, far-1, far)
		}
	}
	return r
}

// points are those of some box of so many entries, above up to so many rows.
func (d dice) points(entries, rows int) api.Points {
	p := api.Points{Box: d.box(entries)}
	for range d.IntN(rows + 1) {
		p.Rows = append(p.Rows, d.row(entries))
	}
	return p
}
