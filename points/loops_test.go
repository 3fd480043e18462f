package points_test

import (
	"math/big"
	"slices"
	"testing"

	"adjoint/api"
	"adjoint/points"
)

// wantForm: the loops have the form that I4 asks.
func wantForm(t *testing.T, p api.Points, loops []api.Loop) {
	t.Helper()
	if len(loops) != len(p.Box) {
		t.Fatalf("%v: %d loops come", p, len(loops))
	}
	for k, loop := range loops {
		if len(loop.Lows) == 0 || len(loop.Highs) == 0 {
			t.Errorf("%v: loop %d has not both bounds: %v", p, k, loop)
		}
		for _, b := range slices.Concat(loop.Lows, loop.Highs) {
			if b.Div < 1 || b.Div > far {
				t.Errorf("%v: loop %d has the Div %d", p, k, b.Div)
			}
			if len(b.Row.Coef) != k {
				t.Errorf("%v: loop %d has a row over %d numbers", p, k, len(b.Row.Coef))
			}
			if slices.ContainsFunc(append(l(b.Row.Const), b.Row.Coef...), func(n int) bool { return n < -far || n > far }) {
				t.Errorf("%v: loop %d has the row %v", p, k, b.Row)
			}
		}
	}
}

// divided is a bound's number, rounded down or up, reckoned with big numbers, whose division by what is above 0 rounds down.
func divided(b api.Bound, x []int, up bool) int {
	n, div := big.NewInt(int64(number(b.Row, x))), big.NewInt(int64(b.Div))
	rest := new(big.Int)
	n.DivMod(n, div, rest)
	if up && rest.Sign() > 0 {
		n.Add(n, big.NewInt(1))
	}
	return int(n.Int64())
}

// walker goes through loops by the words of I4.
type walker struct {
	t      *testing.T
	p      api.Points
	loops  []api.Loop
	rounds int
	seen   [][]int
}

func (w *walker) walk(x []int) {
	k := len(x)
	if k == len(w.loops) {
		w.seen = append(w.seen, slices.Clone(x))
		return
	}
	from, to := least, most
	for _, b := range w.loops[k].Lows {
		from = max(from, divided(b, x, true))
	}
	for _, b := range w.loops[k].Highs {
		to = min(to, divided(b, x, false))
	}
	for n := from; n <= to; n++ {
		if w.rounds++; w.rounds > 20000 {
			w.t.Fatalf("%v: the loops go on and on", w.p)
		}
		if n < 0 || n >= w.p.Box[k] {
			w.t.Fatalf("%v: loop %d goes to %d behind %v", w.p, k, n, x)
		}
		w.walk(append(x, n))
	}
}

// wantLoops: loops come, have the right form, and visit just these points, in order.
func wantLoops(t *testing.T, p api.Points, want ...[]int) {
	t.Helper()
	loops, err := points.Loops(p)
	if err != api.OK {
		t.Fatalf("%v: %d comes", p, err)
	}
	wantForm(t, p, loops)
	if len(loops) == 0 {
		return
	}
	w := walker{t: t, p: p, loops: loops}
	w.walk(nil)
	if !sameLists(w.seen, want) {
		t.Errorf("%v: %v visit %v, not %v", p, loops, w.seen, want)
	}
}

// I4: loops that can be reckoned by hand.
func TestI4Loops(t *testing.T) {
	wantLoops(t, in(l(3, 3), row(0, -1, 1)), l(0, 0), l(0, 1), l(0, 2), l(1, 1), l(1, 2), l(2, 2))
	wantLoops(t, in(l(3)), l(0), l(1), l(2))
	wantLoops(t, in(l(1)), l(0))
	wantLoops(t, in(l(2, 1, 3), row(-1, 0, 0, 1)), l(0, 0, 1), l(0, 0, 2), l(1, 0, 1), l(1, 0, 2))
	wantLoops(t, in(l(3, 5), row(0, -2, 1), row(0, 2, -1)), l(0, 0), l(1, 2), l(2, 4))
}

// I4: the greatest of Lows is rounded up, the least of Highs down, above 0 and below.
func TestI4NotEven(t *testing.T) {
	wantLoops(t, in(l(20), row(-10, 3)), byHand(in(l(20), row(-4, 1)))...)
	wantLoops(t, in(l(20), row(15, -2)), byHand(in(l(8)))...)
	wantLoops(t, in(l(20), row(-10, 3), row(15, -2)), l(4), l(5), l(6), l(7))
	wantLoops(t, in(l(20), row(-7, 2), row(7, -2)))
	wantLoops(t, in(l(20), row(-9, 2), row(11, -2)), l(5))
	wantLoops(t, in(l(4), row(10, 3)), l(0), l(1), l(2), l(3))
	wantLoops(t, in(l(4), row(-10, -3)))
	wantLoops(t, in(l(4), row(-1, -3)))
	wantLoops(t, in(l(4), row(1, -3)), l(0))
	wantLoops(t, in(l(4), row(2, -3)), l(0))
	wantLoops(t, in(l(4), row(3, -3)), l(0), l(1))
	wantLoops(t, in(l(4), row(-far, far-1)), l(2), l(3))
	wantLoops(t, in(l(4), row(far-1, -far)), l(0))
	wantLoops(t, in(l(4), row(far, -far)), l(0), l(1))
	wantLoops(t, in(l(4), row(-far, far)), l(1), l(2), l(3))
}

// I4: all rows with small numbers, over boxes of each number of entries.
func TestI4EachRow(t *testing.T) {
	coefs := l(-3, -2, -1, 0, 1, 2, 3)
	for entries := 1; entries <= 4; entries++ {
		box := l(4, 3, 3, 2)[:entries]
		span := 1
		for range entries {
			span *= len(coefs)
		}
		for which := range span {
			r := api.Row{Coef: make([]int, entries)}
			rest := which
			for k := range entries {
				r.Coef[k] = coefs[rest%len(coefs)]
				rest /= len(coefs)
			}
			for _, r.Const = range l(-7, -1, 0, 1, 5) {
				p := in(box, r)
				wantLoops(t, p, byHand(p)...)
			}
		}
	}
}

// I4: rows that name outer numbers alone, none at all, or one far out and one far in.
func TestI4OuterNumbers(t *testing.T) {
	for _, rows := range [][]api.Row{
		{row(-1, 1, 0, 0)}, {row(1, -1, 0, 0)}, {row(-5, 2, 3, 0)}, {row(5, -2, -3, 0)}, {row(-2, 0, 1, 0)}, {row(0, 1, -1, 0)},
		{row(0, 0, 0, 0)}, {row(far, 0, 0, 0)}, {row(-1, 0, 0, 0)}, {row(-far, 0, 0, 0)}, {row(0, 0, 0, 0), row(-1, 0, 0, 0), row(0, 1, 1, 1)},
		{row(-1, 1, 0, 0), row(2, -1, 0, 0), row(-1, 0, 1, 0), row(0, 0, 1, -1)}, {row(-3, 1, 0, 1)}, {row(0, 2, 0, -1)},
	} {
		p := in(l(4, 3, 3), rows...)
		wantLoops(t, p, byHand(p)...)
	}
}

// I4: no rows, in boxes of each number of entries, small and great.
func TestI4NoRows(t *testing.T) {
	for _, box := range [][]int{l(1), l(7), l(4096), l(1, 1), l(2, 3), l(64, 64), l(3, 1, 2), l(16, 16, 16), l(1, 1, 1, 1), l(2, 1, 3, 2), l(8, 8, 8, 8)} {
		wantLoops(t, in(box), byHand(in(box))...)
	}
}

// I4: where there are no points, nothing is visited, and nobody goes round and round for it.
func TestI4NoPoints(t *testing.T) {
	for _, box := range [][]int{
		l(0), l(0, 5), l(5, 0), l(0, 0), l(4096, 0), l(0, 4096), l(4096, 4096, 0), l(4096, 0, 4096),
		l(0, 4096, 4096, 4096), l(4096, 0, 4096, 4096), l(4096, 4096, 0, 4096), l(4096, 4096, 4096, 0),
	} {
		for _, rows := range [][]api.Row{nil, many(8, len(box)), {row(-1, make([]int, len(box))...)}, {row(0, slices.Repeat(l(1), len(box))...)}, {row(5, slices.Repeat(l(-1), len(box))...)}} {
			wantLoops(t, in(box, rows...))
		}
	}
	for _, p := range []api.Points{in(l(64, 64), row(-1, 0, 0)), in(l(64, 64), row(-127, 1, 1)), in(l(4096), row(-1, -1)), in(l(2, 2, 2, 2), row(-5, 1, 1, 1, 1)), in(l(9, 9), row(-1, 2, -2), row(1, -2, 2))} {
		wantLoops(t, p)
	}
}

// I4: where Box has no entries there are no loops, whatever the rows are.
func TestI4NoEntries(t *testing.T) {
	for _, rows := range [][]api.Row{nil, {}, {row(0)}, {row(-1)}, {row(far), row(-far)}, many(8, 0)} {
		if loops, err := points.Loops(in(nil, rows...)); len(loops) != 0 || err != api.OK {
			t.Errorf("%v: %v, %d comes", rows, loops, err)
		}
	}
	wantWrong(t, in(nil, row(0, 1)), api.ErrShape)
	wantWrong(t, in(nil, row(far+1)), api.ErrRange)
	wantWrong(t, in(nil, many(9, 0)...), api.ErrMany)
}

// I4: eight rows, all on one side of one number or on both.
func TestI4ManyRows(t *testing.T) {
	var lows, highs []api.Row
	for k := range 8 {
		lows = append(lows, row(-2*k, 1, 1+k%3))
		highs = append(highs, row(40-k, -1-k%4, -1))
	}
	for _, rows := range [][]api.Row{lows, highs, slices.Concat(lows[:4], highs[:4]), slices.Concat(highs[4:], lows[4:])} {
		p := in(l(20, 30), rows...)
		wantLoops(t, p, byHand(p)...)
	}
}

// I4: dice-thrown points.
func TestI4Dice(t *testing.T) {
	d := thrown(4)
	some := [5]int{}
	for range 4000 {
		p := d.points(1+d.IntN(4), d.of(1, 2, 3, 8))
		if points.Wrong(p) != api.OK {
			continue
		}
		want := byHand(p)
		wantLoops(t, p, want...)
		if len(want) > 1 {
			some[len(p.Box)]++
		}
	}
	if slices.Min(some[1:]) < 200 {
		t.Errorf("so many had points: %v", some)
	}
}
