package slope_test

import (
	"fmt"
	"math"
	"slices"
	"testing"

	"adjoint/api"
)

// line is an operation on arrays with slopes, the slope of what it makes; what that is told, and what it then tells each argument.
type line struct {
	op           api.Op
	args, slopes []api.Array
	slope        api.Array
	told         api.Array
	tells        []api.Array
}

// graph is one with a parameter for each argument that gives what the operation makes of them.
func (c line) graph() api.Graph {
	var nodes []api.Node
	var args []int
	for k, a := range c.args {
		nodes, args = append(nodes, par(k, a.Dims...)), append(args, k)
	}
	return giving(l(len(args)), append(nodes, on(c.op, args...))...)
}

// hold: both graphs tell what the lines say; each argument alone too.
func hold(t *testing.T, lines ...line) {
	t.Helper()
	for _, c := range lines {
		g := c.graph()
		wantAhead(t, g, c.args, c.slopes, c.slope)
		wantBackward(t, g, c.args, arrays(c.told), c.tells...)
		byHand(t, g, c.args, c.slopes, arrays(c.told))
		for k := range c.args {
			alone := slices.Clone(c.slopes)
			for other := range alone {
				if other != k {
					alone[other] = noughts(alone[other].Dims)
				}
			}
			byHand(t, g, c.args, alone, arrays(c.told))
		}
	}
}

// plainOp is an operation without fields.
func plainOp(kind int) api.Op { return api.Op{Kind: kind} }

// The greatest and the least number: beyond them it wraps round.
const (
	most  = math.MaxInt64
	least = math.MinInt64
)

func TestD2FillAndLess(t *testing.T) {
	for _, dims := range [][]int{nil, l(2), l(0), l(2, 3)} {
		for _, n := range []int64{0, 1, -7, least} {
			hold(t, line{op: api.Op{Kind: api.Fill, Dims: dims, Value: n}, slope: noughts(dims), told: upTo(dims...)})
		}
	}
	hold(t,
		line{plainOp(api.Less), arrays(row(1, 2, 3), row(2, 2, 2)), arrays(row(10, 20, 30), row(1, 2, 3)), row(0, 0, 0), row(5, 6, 7), arrays(row(0, 0, 0), row(0, 0, 0))},
		line{plainOp(api.Less), arrays(one(1), one(2)), arrays(one(most), one(least)), one(0), one(5), arrays(one(0), one(0))},
		line{plainOp(api.Less), arrays(row(), row()), arrays(row(), row()), row(), row(), arrays(row(), row())},
	)
}

func TestD2AddAndSub(t *testing.T) {
	x, y, slopes := row(2, 3), row(5, -7), arrays(row(10, 20), row(1, 2))
	hold(t,
		line{plainOp(api.Add), arrays(x, y), slopes, row(11, 22), row(5, 7), arrays(row(5, 7), row(5, 7))},
		line{plainOp(api.Sub), arrays(x, y), slopes, row(9, 18), row(5, 7), arrays(row(5, 7), row(-5, -7))},
		line{plainOp(api.Add), arrays(one(1), one(2)), arrays(one(most), one(1)), one(least), one(least), arrays(one(least), one(least))},
		line{plainOp(api.Sub), arrays(one(1), one(2)), arrays(one(least), one(1)), one(most), one(least), arrays(one(least), one(least))},
		line{plainOp(api.Sub), arrays(one(1), one(2)), arrays(one(0), one(least)), one(least), one(most), arrays(one(most), one(-most))},
	)
	none := of(l(2, 0))
	for _, kind := range []int{api.Add, api.Sub, api.Mul, api.Max} {
		hold(t, line{plainOp(kind), arrays(none, none), arrays(none, none), none, none, arrays(none, none)})
	}
}

func TestD2Mul(t *testing.T) {
	hold(t,
		line{plainOp(api.Mul), arrays(row(2, 3), row(5, -7)), arrays(row(10, 20), row(1, 2)), row(52, -134), row(5, 7), arrays(row(25, -49), row(10, 21))},
		line{plainOp(api.Mul), arrays(one(3), one(0)), arrays(one(0), one(1)), one(3), one(5), arrays(one(0), one(15))},
		line{plainOp(api.Mul), arrays(of(l(2, 2), 1, 2, 3, 4), of(l(2, 2), 5, 6, 7, 8)), arrays(of(l(2, 2), 1, 0, 0, 1), of(l(2, 2), 0, 1, 0, 1)), of(l(2, 2), 5, 2, 0, 12), of(l(2, 2), 1, 10, 100, 1000), arrays(of(l(2, 2), 5, 60, 700, 8000), of(l(2, 2), 1, 20, 300, 4000))},
		// They wrap round.
		line{plainOp(api.Mul), arrays(one(1<<62), one(3)), arrays(one(1<<63-1), one(4)), one(most - 2), one(1 << 62), arrays(one(-1<<62), one(0))},
		line{plainOp(api.Mul), arrays(one(least), one(-1)), arrays(one(least), one(1)), one(0), one(3), arrays(one(-3), one(least))},
	)
}

func TestD2Max(t *testing.T) {
	hold(t,
		// Below, the same, above.
		line{plainOp(api.Max), arrays(row(1, 2, 3), row(2, 2, 2)), arrays(row(10, 20, 30), row(1, 2, 3)), row(1, 20, 30), row(5, 6, 7), arrays(row(0, 6, 7), row(5, 0, 0))},
		line{plainOp(api.Max), arrays(row(2, 2, 2), row(1, 2, 3)), arrays(row(10, 20, 30), row(1, 2, 3)), row(10, 20, 3), row(5, 6, 7), arrays(row(5, 6, 0), row(0, 0, 7))},
		line{plainOp(api.Max), arrays(one(4), one(4)), arrays(one(10), one(1)), one(10), one(5), arrays(one(5), one(0))},
		// The numbers are those that have wrapped round, and are not taken from one another.
		line{plainOp(api.Max), arrays(row(least, most, -1, least), row(most, least, 0, least)), arrays(row(1, 2, 3, 4), row(5, 6, 7, 8)), row(5, 2, 7, 4), row(1, 2, 3, least), arrays(row(0, 2, 0, least), row(1, 0, 3, 0))},
	)
}

func TestD2Pick(t *testing.T) {
	which := row(0, 1, -1, 1<<32, least, 0)
	hold(t,
		line{plainOp(api.Pick), arrays(which, row(1, 2, 3, 4, 5, 6), row(7, 8, 9, 10, 11, 12)), arrays(row(100, 100, 100, 100, 100, 100), row(10, 20, 30, 40, 50, 60), row(1, 2, 3, 4, 5, 6)),
			row(1, 20, 30, 40, 50, 6), row(1, 2, 3, 4, 5, 6), arrays(row(0, 0, 0, 0, 0, 0), row(0, 2, 3, 4, 5, 0), row(1, 0, 0, 0, 0, 6))},
		line{plainOp(api.Pick), arrays(one(2), one(3), one(4)), arrays(one(5), one(6), one(7)), one(6), one(8), arrays(one(0), one(8), one(0))},
		line{plainOp(api.Pick), arrays(one(0), one(3), one(4)), arrays(one(5), one(6), one(7)), one(7), one(8), arrays(one(0), one(0), one(8))},
		line{plainOp(api.Pick), arrays(row(), row(), row()), arrays(row(), row(), row()), row(), row(), arrays(row(), row(), row())},
	)
}

func TestD2SpreadAndSum(t *testing.T) {
	spread := func(dims []int, at ...int) api.Op { return api.Op{Kind: api.Spread, Dims: dims, At: at} }
	sum := func(at ...int) api.Op { return api.Op{Kind: api.Sum, At: at} }
	hold(t,
		line{spread(l(3, 2), 1), arrays(row(7, 8)), arrays(row(1, 2)), of(l(3, 2), 1, 2, 1, 2, 1, 2), upTo(3, 2), arrays(row(9, 12))},
		line{spread(l(2, 3), 0), arrays(row(7, 8)), arrays(row(1, 2)), of(l(2, 3), 1, 1, 1, 2, 2, 2), upTo(2, 3), arrays(row(6, 15))},
		line{spread(l(2), 0), arrays(row(7, 8)), arrays(row(1, 2)), row(1, 2), row(5, 6), arrays(row(5, 6))},
		line{spread(l(2, 2)), arrays(one(7)), arrays(one(3)), of(l(2, 2), 3, 3, 3, 3), upTo(2, 2), arrays(one(10))},
		line{spread(nil), arrays(one(7)), arrays(one(3)), one(3), one(4), arrays(one(4))},
		// Two that are alike in their dimensions, with new ones ahead, between and behind.
		line{spread(l(2, 2, 1, 2, 1), 1, 3), arrays(upTo(2, 2)), arrays(upTo(2, 2)), of(l(2, 2, 1, 2, 1), 1, 2, 3, 4, 1, 2, 3, 4), upTo(2, 2, 1, 2, 1), arrays(of(l(2, 2), 6, 8, 10, 12))},
		line{spread(l(0)), arrays(one(7)), arrays(one(3)), row(), row(), arrays(one(0))},
		line{spread(l(2, 0), 0), arrays(row(7, 8)), arrays(row(1, 2)), of(l(2, 0)), of(l(2, 0)), arrays(row(0, 0))},
		line{spread(l(2, 0), 1), arrays(row()), arrays(row()), of(l(2, 0)), of(l(2, 0)), arrays(row())},
		line{spread(l(2)), arrays(one(7)), arrays(one(least)), row(least, least), row(least, least), arrays(one(0))},
		line{sum(1), arrays(upTo(2, 3)), arrays(upTo(2, 3)), row(6, 15), row(10, 20), arrays(of(l(2, 3), 10, 10, 10, 20, 20, 20))},
		line{sum(0), arrays(upTo(2, 3)), arrays(upTo(2, 3)), row(5, 7, 9), row(10, 20, 30), arrays(of(l(2, 3), 10, 20, 30, 10, 20, 30))},
		line{sum(0, 1), arrays(upTo(2, 3)), arrays(upTo(2, 3)), one(21), one(10), arrays(of(l(2, 3), 10, 10, 10, 10, 10, 10))},
		line{sum(), arrays(upTo(2)), arrays(upTo(2)), row(1, 2), row(10, 20), arrays(row(10, 20))},
		line{sum(), arrays(one(2)), arrays(one(3)), one(3), one(4), arrays(one(4))},
		line{sum(0, 2), arrays(upTo(2, 2, 2)), arrays(upTo(2, 2, 2)), row(14, 22), row(1, 10), arrays(of(l(2, 2, 2), 1, 1, 10, 10, 1, 1, 10, 10))},
		line{sum(0), arrays(of(l(0, 2))), arrays(of(l(0, 2))), row(0, 0), row(5, 6), arrays(of(l(0, 2)))},
		line{sum(1), arrays(of(l(0, 2))), arrays(of(l(0, 2))), row(), row(), arrays(of(l(0, 2)))},
		line{sum(0), arrays(row(1, 2)), arrays(row(most, 1)), one(least), one(least), arrays(row(least, least))},
	)
}

func TestD2TurnFlipReform(t *testing.T) {
	turn := func(at ...int) api.Op { return api.Op{Kind: api.Turn, At: at} }
	flip := func(at ...int) api.Op { return api.Op{Kind: api.Flip, At: at} }
	reform := func(dims ...int) api.Op { return api.Op{Kind: api.Reform, Dims: dims} }
	hold(t,
		line{turn(1, 0), arrays(upTo(2, 3)), arrays(upTo(2, 3)), of(l(3, 2), 1, 4, 2, 5, 3, 6), upTo(3, 2), arrays(of(l(2, 3), 1, 3, 5, 2, 4, 6))},
		// One that is not its own way back.
		line{turn(2, 0, 1), arrays(upTo(2, 1, 3)), arrays(upTo(2, 1, 3)), of(l(3, 2, 1), 1, 4, 2, 5, 3, 6), upTo(3, 2, 1), arrays(of(l(2, 1, 3), 1, 3, 5, 2, 4, 6))},
		line{turn(1, 2, 0), arrays(upTo(2, 2, 2)), arrays(upTo(2, 2, 2)), of(l(2, 2, 2), 1, 5, 2, 6, 3, 7, 4, 8), upTo(2, 2, 2), arrays(of(l(2, 2, 2), 1, 3, 5, 7, 2, 4, 6, 8))},
		line{turn(), arrays(one(7)), arrays(one(3)), one(3), one(4), arrays(one(4))},
		line{turn(1, 0), arrays(of(l(0, 2))), arrays(of(l(0, 2))), of(l(2, 0)), of(l(2, 0)), arrays(of(l(0, 2)))},
		line{flip(0), arrays(row(7, 8, 9)), arrays(row(1, 2, 3)), row(3, 2, 1), row(4, 5, 6), arrays(row(6, 5, 4))},
		line{flip(1), arrays(upTo(2, 3)), arrays(upTo(2, 3)), of(l(2, 3), 3, 2, 1, 6, 5, 4), upTo(2, 3), arrays(of(l(2, 3), 3, 2, 1, 6, 5, 4))},
		line{flip(), arrays(one(7)), arrays(one(3)), one(3), one(4), arrays(one(4))},
		line{flip(0), arrays(of(l(0, 2))), arrays(of(l(0, 2))), of(l(0, 2)), of(l(0, 2)), arrays(of(l(0, 2)))},
		line{reform(3, 2), arrays(upTo(2, 3)), arrays(upTo(2, 3)), upTo(3, 2), upTo(3, 2), arrays(upTo(2, 3))},
		line{reform(1), arrays(one(7)), arrays(one(3)), row(3), row(4), arrays(one(4))},
		line{reform(), arrays(upTo(1, 1)), arrays(upTo(1, 1)), one(1), one(4), arrays(of(l(1, 1), 4))},
		line{reform(0, 5), arrays(row()), arrays(row()), of(l(0, 5)), of(l(0, 5)), arrays(row())},
	)
}

func TestD2CutAndPad(t *testing.T) {
	cut := func(lo, hi, step []int) api.Op { return api.Op{Kind: api.Cut, Lo: lo, Hi: hi, Step: step} }
	pad := func(lo, hi, step []int) api.Op { return api.Op{Kind: api.Pad, Lo: lo, Hi: hi, Step: step} }
	hold(t,
		line{cut(l(1), l(5), l(2)), arrays(upTo(5)), arrays(upTo(5)), row(2, 4), row(7, 9), arrays(row(0, 7, 0, 9, 0))},
		line{cut(l(1), l(4), l(2)), arrays(upTo(5)), arrays(upTo(5)), row(2, 4), row(7, 9), arrays(row(0, 7, 0, 9, 0))},
		line{cut(l(0), l(5), l(1)), arrays(upTo(5)), arrays(upTo(5)), row(1, 2, 3, 4, 5), row(5, 6, 7, 8, 9), arrays(row(5, 6, 7, 8, 9))},
		line{cut(l(0), l(4), l(3)), arrays(upTo(5)), arrays(upTo(5)), row(1, 4), row(5, 6), arrays(row(5, 0, 0, 6, 0))},
		line{cut(l(2), l(5), l(4096)), arrays(upTo(5)), arrays(upTo(5)), row(3), row(5), arrays(row(0, 0, 5, 0, 0))},
		// Nothing of it.
		line{cut(l(2), l(2), l(3)), arrays(upTo(5)), arrays(upTo(5)), row(), row(), arrays(row(0, 0, 0, 0, 0))},
		line{cut(l(5), l(5), l(1)), arrays(upTo(5)), arrays(upTo(5)), row(), row(), arrays(row(0, 0, 0, 0, 0))},
		line{cut(l(0), l(0), l(1)), arrays(upTo(5)), arrays(upTo(5)), row(), row(), arrays(row(0, 0, 0, 0, 0))},
		line{cut(l(0, 1), l(2, 1), l(1, 1)), arrays(upTo(2, 3)), arrays(upTo(2, 3)), of(l(2, 0)), of(l(2, 0)), arrays(noughts(l(2, 3)))},
		line{cut(l(0, 1), l(0, 3), l(1, 2)), arrays(of(l(0, 4))), arrays(of(l(0, 4))), of(l(0, 1)), of(l(0, 1)), arrays(of(l(0, 4)))},
		line{cut(l(1, 0), l(3, 4), l(1, 3)), arrays(upTo(3, 4)), arrays(upTo(3, 4)), of(l(2, 2), 5, 8, 9, 12), upTo(2, 2), arrays(of(l(3, 4), 0, 0, 0, 0, 1, 0, 0, 2, 3, 0, 0, 4))},
		line{cut(nil, nil, nil), arrays(one(7)), arrays(one(3)), one(3), one(4), arrays(one(4))},
		line{pad(l(1), l(2), l(3)), arrays(upTo(2)), arrays(upTo(2)), row(0, 1, 0, 0, 2, 0, 0), upTo(7), arrays(row(2, 5))},
		line{pad(l(0), l(1), l(1)), arrays(upTo(2)), arrays(upTo(2)), row(1, 2, 0), upTo(3), arrays(row(1, 2))},
		line{pad(l(0), l(0), l(4096)), arrays(upTo(1)), arrays(upTo(1)), row(1), row(4), arrays(row(4))},
		line{pad(l(1), l(2), l(3)), arrays(row()), arrays(row()), row(0, 0, 0), row(4, 5, 6), arrays(row())},
		line{pad(l(0), l(0), l(3)), arrays(row()), arrays(row()), row(), row(), arrays(row())},
		line{pad(l(1, 0), l(0, 1), l(1, 2)), arrays(upTo(1, 2)), arrays(upTo(1, 2)), of(l(2, 4), 0, 0, 0, 0, 1, 0, 2, 0), upTo(2, 4), arrays(of(l(1, 2), 5, 7))},
		line{pad(nil, nil, nil), arrays(one(7)), arrays(one(3)), one(3), one(4), arrays(one(4))},
	)
}

func TestD2Dot(t *testing.T) {
	dot := func(at, step, lo, hi []int) api.Op {
		return api.Op{Kind: api.Dot, At: at, Step: step, Lo: lo, Hi: hi}
	}
	a, b := of(l(2, 2), 1, 2, 3, 4), of(l(2, 2), 5, 6, 7, 8)
	corner, other := of(l(2, 2), 1, 0, 0, 0), of(l(2, 2), 0, 0, 0, 1)
	u := of(l(2, 2), 1, 10, 100, 1000)
	hold(t,
		line{dot(l(1), l(0), nil, nil), arrays(a, b), arrays(corner, other), of(l(2, 2), 5, 8, 0, 4), u, arrays(of(l(2, 2), 65, 87, 6500, 8700), of(l(2, 2), 301, 3010, 402, 4020))},
		// The other way round: the products of columns with rows.
		line{dot(l(0), l(1), nil, nil), arrays(a, b), arrays(corner, other), of(l(2, 2), 5, 7+3, 0, 4), u, arrays(of(l(2, 2), 75, 7500, 86, 8600), of(l(2, 2), 201, 403, 2010, 4030))},
		// Of two lists the inner product, and the products of all pairs.
		line{dot(l(0), l(0), nil, nil), arrays(row(2, 3), row(5, 7)), arrays(row(1, 10), row(100, 1000)), one(5 + 70 + 200 + 3000), one(2), arrays(row(10, 14), row(4, 6))},
		line{dot(nil, nil, nil, nil), arrays(row(2, 3), row(5, 7, 11)), arrays(row(1, 0), row(0, 1, 0)), of(l(2, 3), 5, 7+2, 11, 0, 3, 0), upTo(2, 3), arrays(row(5+14+33, 20+35+66), row(2+12, 4+15, 6+18))},
		line{dot(nil, nil, nil, nil), arrays(one(2), one(5)), arrays(one(1), one(10)), one(25), one(3), arrays(one(15), one(6))},
		line{dot(nil, nil, nil, nil), arrays(one(2), row(5, 7)), arrays(one(1), row(0, 10)), row(5, 27), row(3, 4), arrays(one(43), row(6, 8))},
		// Entry by entry: what goes together.
		line{dot(nil, nil, l(0), l(0)), arrays(row(2, 3), row(5, 7)), arrays(row(1, 10), row(100, 1000)), row(205, 3070), row(3, 4), arrays(row(15, 28), row(6, 12))},
		// Sums without entries, and nothing made.
		line{dot(l(0), l(0), nil, nil), arrays(row(), row()), arrays(row(), row()), one(0), one(5), arrays(row(), row())},
		line{dot(l(1), l(0), nil, nil), arrays(of(l(2, 0)), of(l(0, 3))), arrays(of(l(2, 0)), of(l(0, 3))), noughts(l(2, 3)), upTo(2, 3), arrays(of(l(2, 0)), of(l(0, 3)))},
		line{dot(l(1), l(0), nil, nil), arrays(of(l(0, 2)), upTo(2, 3)), arrays(of(l(0, 2)), upTo(2, 3)), of(l(0, 3)), of(l(0, 3)), arrays(of(l(0, 2)), noughts(l(2, 3)))},
		line{dot(l(1), l(0), nil, nil), arrays(upTo(3, 2), of(l(2, 0))), arrays(upTo(3, 2), of(l(2, 0))), of(l(3, 0)), of(l(3, 0)), arrays(noughts(l(3, 2)), of(l(2, 0)))},
		// They wrap round.
		line{dot(l(0), l(0), nil, nil), arrays(row(1<<62, 1), row(2, most)), arrays(row(1<<62, 1), row(2, 1)), one(least + least + most + 1), one(4), arrays(row(8, -4), row(0, 4))},
	)
}

// Of Dots with their dimensions in all sorts of orders what is told is what the words say: no two dimensions are alike but for pairs.
func TestD2DotOrders(t *testing.T) {
	for _, c := range []struct {
		a, b             []int
		at, step, lo, hi []int
	}{
		{l(2, 3, 4), l(4, 3, 2), l(0, 1, 2), l(2, 1, 0), nil, nil},
		{l(2, 3, 4), l(4, 3, 2), l(2, 0), l(0, 2), l(1), l(1)},
		{l(2, 3, 4), l(4, 3, 2), l(0, 2), l(2, 0), l(1), l(1)},
		{l(2, 3, 4), l(3, 4, 2), l(1), l(0), l(2, 0), l(1, 2)},
		{l(2, 3, 4), l(3, 4, 2), nil, nil, l(2, 0, 1), l(1, 2, 0)},
		{l(2, 3, 4), l(5, 3), l(1), l(1), nil, nil},
		{l(5, 3), l(2, 3, 4), l(1), l(1), nil, nil},
		{l(2, 3, 4), l(4, 5, 2), l(2), l(0), l(0), l(2)},
		{l(2, 3, 4), l(4, 5, 2), l(0), l(2), l(2), l(0)},
		{l(2, 3), l(4, 2), nil, nil, l(0), l(1)},
		{l(3, 2), l(2, 4), nil, nil, l(1), l(0)},
		{l(2, 3, 1), l(1, 3, 2), l(1, 0), l(1, 2), nil, nil},
		{l(2, 1, 3, 1, 2, 1), l(3, 2, 1), l(2, 4), l(0, 1), l(3), l(2)},
		{l(2, 3, 2), l(2, 2, 2), l(2, 0), l(1, 0), nil, nil},
		{l(2, 3, 2), l(2, 2, 2), l(0, 2), l(1, 0), nil, nil},
	} {
		a, b := upTo(c.a...), upTo(c.b...)
		one := line{op: api.Op{Kind: api.Dot, At: c.at, Step: c.step, Lo: c.lo, Hi: c.hi}, args: arrays(a, b)}
		g := one.graph()
		made := outDims(t, g)[0]
		byHand(t, g, one.args, arrays(upTo(c.a...), upTo(c.b...)), arrays(upTo(made...)))
	}
}

func TestD2Join(t *testing.T) {
	join := func(at int) api.Op { return api.Op{Kind: api.Join, At: l(at)} }
	hold(t,
		line{join(0), arrays(row(7, 8), row(9)), arrays(row(1, 2), row(3)), row(1, 2, 3), row(4, 5, 6), arrays(row(4, 5), row(6))},
		line{join(0), arrays(row(7)), arrays(row(3)), row(3), row(4), arrays(row(4))},
		line{join(0), arrays(row(7), row(), row(8, 9), row()), arrays(row(1), row(), row(2, 3), row()), row(1, 2, 3), row(4, 5, 6), arrays(row(4), row(), row(5, 6), row())},
		line{join(0), arrays(row(), row()), arrays(row(), row()), row(), row(), arrays(row(), row())},
		line{join(1), arrays(upTo(2, 1), upTo(2, 2), of(l(2, 0))), arrays(upTo(2, 1), upTo(2, 2), of(l(2, 0))), of(l(2, 3), 1, 1, 2, 2, 3, 4), upTo(2, 3), arrays(of(l(2, 1), 1, 4), of(l(2, 2), 2, 3, 5, 6), of(l(2, 0)))},
		line{join(0), arrays(upTo(1, 2), upTo(2, 2)), arrays(upTo(1, 2), upTo(2, 2)), of(l(3, 2), 1, 2, 1, 2, 3, 4), upTo(3, 2), arrays(of(l(1, 2), 1, 2), of(l(2, 2), 3, 4, 5, 6))},
		line{join(1), arrays(of(l(0, 2)), of(l(0, 3))), arrays(of(l(0, 2)), of(l(0, 3))), of(l(0, 5)), of(l(0, 5)), arrays(of(l(0, 2)), of(l(0, 3)))},
	)
}

func TestD2TakeAndPut(t *testing.T) {
	take, put := plainOp(api.Take), func(many int) api.Op { return api.Op{Kind: api.Put, Dims: l(many)} }
	rows := of(l(3, 2), 1, 2, 3, 4, 5, 6)
	hold(t,
		line{take, arrays(rows, row(2, -1, 0, 2, 3)), arrays(of(l(3, 2), 10, 20, 30, 40, 50, 60), row(7, 7, 7, 7, 7)), of(l(5, 2), 50, 60, 0, 0, 10, 20, 50, 60, 0, 0), upTo(5, 2), arrays(of(l(3, 2), 5, 6, 0, 0, 8, 10), row(0, 0, 0, 0, 0))},
		line{take, arrays(row(7, 8), one(1)), arrays(row(1, 2), one(5)), one(2), one(3), arrays(row(0, 3), one(0))},
		line{take, arrays(row(7, 8), one(2)), arrays(row(1, 2), one(5)), one(0), one(3), arrays(row(0, 0), one(0))},
		line{take, arrays(row(7, 8), of(l(2, 2), 1, 0, 1<<32, least)), arrays(row(1, 2), upTo(2, 2)), of(l(2, 2), 2, 1, 0, 0), upTo(2, 2), arrays(row(2, 1), noughts(l(2, 2)))},
		line{take, arrays(of(l(0, 2)), row(0, 1)), arrays(of(l(0, 2)), row(1, 1)), noughts(l(2, 2)), upTo(2, 2), arrays(of(l(0, 2)), row(0, 0))},
		line{take, arrays(rows, row()), arrays(rows, row()), of(l(0, 2)), of(l(0, 2)), arrays(noughts(l(3, 2)), row())},
		line{put(3), arrays(upTo(4, 2), row(2, 3, 0, 2)), arrays(upTo(4, 2), row(7, 7, 7, 7)), of(l(3, 2), 5, 6, 0, 0, 8, 10), upTo(3, 2), arrays(of(l(4, 2), 5, 6, 0, 0, 1, 2, 5, 6), row(0, 0, 0, 0))},
		line{put(2), arrays(one(7), one(1)), arrays(one(3), one(5)), row(0, 3), row(4, 5), arrays(one(5), one(0))},
		line{put(2), arrays(one(7), one(-1)), arrays(one(3), one(5)), row(0, 0), row(4, 5), arrays(one(0), one(0))},
		line{put(2), arrays(upTo(2, 2), of(l(2, 2), 1, 0, 1, 2)), arrays(upTo(2, 2), upTo(2, 2)), row(2, 4), row(4, 5), arrays(of(l(2, 2), 5, 4, 5, 0), noughts(l(2, 2)))},
		line{put(2), arrays(row(7, 8), one(1)), arrays(row(1, 2), one(5)), of(l(2, 2), 0, 0, 1, 2), upTo(2, 2), arrays(row(3, 4), one(0))},
		line{put(0), arrays(row(7, 8), row(0, 1)), arrays(row(1, 2), row(5, 5)), row(), row(), arrays(row(0, 0), row(0, 0))},
		line{put(2), arrays(row(), row()), arrays(row(), row()), row(0, 0), row(4, 5), arrays(row(), row())},
		line{put(1), arrays(row(1, 2), row(0, 0)), arrays(row(most, 1), row(0, 0)), row(least), row(least), arrays(row(least, least), row(0, 0))},
	)
}

// One that stands twice, or more often, in one node is told by all of its places.
func TestD2Twice(t *testing.T) {
	x, s, u := row(3, 0), row(10, 100), row(5, 7)
	for _, c := range []struct {
		node        api.Node
		slope, told api.Array
		tells       api.Array
	}{
		{node(api.Add, 0, 0), row(20, 200), u, row(10, 14)},
		{node(api.Sub, 0, 0), row(0, 0), u, row(0, 0)},
		{node(api.Mul, 0, 0), row(60, 0), u, row(30, 0)},
		{node(api.Max, 0, 0), s, u, u},
		{node(api.Less, 0, 0), row(0, 0), u, row(0, 0)},
		{node(api.Pick, 0, 0, 0), s, u, u},
		{node(api.Take, 0, 0), row(0, 10), u, row(7, 0)},
		{on(api.Op{Kind: api.Put, Dims: l(2)}, 0, 0), row(100, 0), u, row(0, 5)},
		{on(api.Op{Kind: api.Dot, At: l(0), Step: l(0)}, 0, 0), one(60), one(5), row(30, 0)},
		{on(api.Op{Kind: api.Dot, Lo: l(0), Hi: l(0)}, 0, 0), row(60, 0), u, row(30, 0)},
		{on(api.Op{Kind: api.Dot}, 0, 0), of(l(2, 2), 60, 300, 300, 0), upTo(2, 2), row(3+3, 9+6)},
		{on(api.Op{Kind: api.Join, At: l(0)}, 0, 0, 0), row(10, 100, 10, 100, 10, 100), upTo(6), row(9, 12)},
	} {
		g := giving(l(1), par(0, 2), c.node)
		byHand(t, g, arrays(x), arrays(s), arrays(c.told))
		wantAhead(t, g, arrays(x), arrays(s), c.slope)
		wantBackward(t, g, arrays(x), arrays(c.told), c.tells)
	}
}

// One that stands in several nodes is told by all of them, whatever stands between.
func TestD2OftenNeeded(t *testing.T) {
	// x * x * x + x - (x * x) * 3, at 2: the slope is 3 * 4 + 1 - 12.
	g := giving(l(6), par(0), node(api.Mul, 0, 0), node(api.Mul, 1, 0), node(api.Add, 2, 0), fill(3), node(api.Mul, 1, 4), node(api.Sub, 3, 5))
	wantAhead(t, g, arrays(one(2)), arrays(one(1)), one(1))
	wantBackward(t, g, arrays(one(2)), arrays(one(1)), one(1))
	wantBackward(t, g, arrays(one(5)), arrays(one(10)), one(10*(75+1-30)))
	// Squares of squares: a chain in which each one is needed twice.
	deep := giving(l(20), par(0))
	for k := range 20 {
		deep.Nodes = append(deep.Nodes, node(api.Mul, k, k))
	}
	// 2^20 times 1 to the power of 2^20 - 1; of 3 it wraps round.
	wantAhead(t, deep, arrays(one(1)), arrays(one(1)), one(1<<20))
	wantBackward(t, deep, arrays(one(-1)), arrays(one(7)), one(-7<<20))
	power := int64(1)
	for range 1<<20 - 1 {
		power *= 3
	}
	wantAhead(t, deep, arrays(one(3)), arrays(one(1)), one(power<<20))
	wantBackward(t, deep, arrays(one(3)), arrays(one(1)), one(power<<20))
}

// A field that means nothing to a kind changes nothing.
func TestD2FieldsThatMeanNothing(t *testing.T) {
	odd := func(kind int) api.Op {
		return api.Op{Kind: kind, Dims: l(9, -9), At: l(7), Lo: l(1, 2, 3), Hi: l(-1), Step: l(0), Value: 8}
	}
	u := row(5, 7)
	for _, kind := range []int{api.Add, api.Sub, api.Mul, api.Max, api.Less, api.Pick, api.Take} {
		many := 2
		if kind == api.Pick {
			many = 3
		}
		args := slices.Repeat(l(0), many)
		byHand(t, giving(l(2), par(0, 2), fill(1, 2), on(odd(kind), args...)), arrays(row(3, 0)), arrays(row(10, 100)), arrays(u))
		args[many-1] = 1
		byHand(t, giving(l(2), par(0, 2), fill(1, 2), on(odd(kind), args...)), arrays(row(3, 0)), arrays(row(10, 100)), arrays(u))
	}
	with := func(change func(*api.Op), kind int) api.Op {
		op := odd(kind)
		change(&op)
		return op
	}
	for what, op := range []api.Op{
		with(func(op *api.Op) { op.Dims, op.At = l(2, 2), l(1) }, api.Spread), with(func(op *api.Op) { op.At = l(0) }, api.Sum), with(func(op *api.Op) { op.At = l(0) }, api.Turn), with(func(op *api.Op) { op.At = l(0) }, api.Flip),
		with(func(op *api.Op) { op.Dims = l(2, 1) }, api.Reform), with(func(op *api.Op) { op.Lo, op.Hi, op.Step = l(1), l(2), l(2) }, api.Cut), with(func(op *api.Op) { op.Lo, op.Hi, op.Step = l(1), l(2), l(2) }, api.Pad), with(func(op *api.Op) { op.At = l(0) }, api.Join),
	} {
		g := giving(l(1), par(0, 2), on(op, 0))
		byHand(t, g, arrays(row(3, 0)), arrays(row(10, 100)), arrays(upTo(outDims(t, g)[0]...)))
		if t.Failed() {
			t.Fatal(what)
		}
	}
	p := par(0, 2)
	p.Op.Lo, p.Op.Value = l(-5), 6
	byHand(t, giving(l(0), p), arrays(row(3, 0)), arrays(row(10, 100)), arrays(u))
	put, dot := with(func(op *api.Op) { op.Dims = l(2) }, api.Put), with(func(op *api.Op) { op.At, op.Step, op.Lo, op.Hi = l(0), l(0), nil, nil }, api.Dot)
	byHand(t, giving(l(1, 2), par(0, 2), on(put, 0, 0), on(dot, 0, 0)), arrays(row(3, 0)), arrays(row(10, 100)), arrays(u, one(2)))
	full := with(func(op *api.Op) { op.Dims = l(2) }, api.Fill)
	byHand(t, giving(l(2), par(0, 2), on(full), node(api.Mul, 0, 1)), arrays(row(3, 0)), arrays(row(10, 100)), arrays(u))
	if fmt.Sprint(full.At) != "[7]" {
		t.Error("what was handed in is changed")
	}
}
