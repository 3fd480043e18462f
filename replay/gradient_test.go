package replay_test

import (
	"fmt"
	"math"
	"math/rand/v2"
	"slices"
	"testing"

	"adjoint/api"
	"adjoint/graph"
	"adjoint/replay"
	"adjoint/slope"
)

func TestR5ByHand(t *testing.T) {
	// Of x0 * x0 - x1 and x1 * x1 - x0: the states are 2 3, 1 7, -6 48.
	g := step(t, "x * x - flip{0}(x)", 2)
	for n, want := range [][]int64{{1, 0}, {4, -1}, {9, -8}, {-90, 11}} {
		wantGradient(t, g, n, row(2, 3), row(1, 0), row(want...))
	}
	wantGradient(t, g, 1, row(2, 3), row(0, 1), row(-1, 6))
	wantGradient(t, g, 2, row(2, 3), row(0, 1), row(-4-14, 1+84))
	// A square, again and again: x to the power of 2, 4, 8, 16.
	square := step(t, "x * x")
	for n, want := range []int64{1, 2 * 3, 4 * 27, 8 * 2187, 16 * 14348907} {
		wantGradient(t, square, n, one(3), one(1), one(want))
		wantGradient(t, square, n, one(3), one(-5), one(-5*want))
		wantGradient(t, square, n, one(3), one(0), one(0))
	}
	// Each state tells which way it goes on: 5, -2, -9, 91, 84, 77, ...
	turns := step(t, "pick(less(x, 0 - 5), 10 - x * 9, x - 7)")
	for n, want := range []int64{1, 1, 1, -9, -9, -9, -9} {
		wantGradient(t, turns, n, one(5), one(1), one(want))
	}
	// Rows by their numbers, which the states tell too.
	wantGradient(t, step(t, "take(x, x)", 3), 1, row(2, 0, 1), row(1, 10, 100), row(10, 100, 1))
	wantGradient(t, step(t, "take(x, x)", 3), 2, row(2, 0, 1), row(1, 10, 100), row(1, 10, 100))
	wantGradient(t, step(t, "take(x, x)", 3), 1, row(1, 1, 7), row(1, 10, 100), row(0, 11, 0))
}

func TestR5NoStep(t *testing.T) {
	for _, g := range []api.Graph{step(t, "x * x", 2), step(t, "x", 2), step(t, "x * 0", 2), giving(l(1), par(0, 2), fill(3, 2))} {
		wantGradient(t, g, 0, row(2, 3), row(7, -8), row(7, -8))
	}
	wantGradient(t, giving(l(0), par(0)), 0, one(4), one(math.MinInt64), one(math.MinInt64))
}

func TestR5Edges(t *testing.T) {
	for n := range 4 {
		// What is given is the parameter itself.
		wantGradient(t, giving(l(0), par(0, 2)), n, row(2, 3), row(7, 8), row(7, 8))
		// Without entries.
		wantGradient(t, step(t, "x * x", 3, 0), n, of(l(3, 0)), of(l(3, 0)), of(l(3, 0)))
		// With as many dimensions as there may be; each sum is of 2, and spread to 2.
		six := giving(l(2), par(0, 1, 2, 1, 1, 1, 1), on(api.Op{Kind: api.Sum, At: l(1)}, 0), on(api.Op{Kind: api.Spread, Dims: l(1, 2, 1, 1, 1, 1), At: l(0, 2, 3, 4, 5)}, 1))
		told := of(l(1, 2, 1, 1, 1, 1), 5, 6)
		want := []api.Array{told, of(told.Dims, 11, 11), of(told.Dims, 22, 22), of(told.Dims, 44, 44)}[n]
		wantGradient(t, six, n, of(told.Dims, 1, 2), told, want)
		// Nodes that nobody needs, whatever they would tell.
		wantGradient(t, giving(l(2), par(0), fill(9), node(api.Add, 0, 0), node(api.Mul, 0, 2)), n, one(3), one(1), one(1<<n))
	}
	// What is given does not change with x.
	for n := 1; n < 4; n++ {
		wantGradient(t, giving(l(1), par(0, 2), fill(3, 2)), n, row(2, 3), row(7, 8), row(0, 0))
		wantGradient(t, giving(l(1), par(0, 2), node(api.Less, 0, 0)), n, row(2, 3), row(7, 8), row(0, 0))
	}
	// An array as great as it may be.
	wide := api.Array{Dims: l(4096, 16), Data: slices.Repeat([]int64{2}, 65536)}
	want := api.Array{Dims: l(4096, 16), Data: slices.Repeat([]int64{2 * 4 * 8}, 65536)}
	if got, err := replay.Gradient(step(t, "x * x", 4096, 16), 2, 1, wide, wide); err != api.OK || !same(got, want) {
		t.Errorf("%d comes, with %d entries", err, len(got.Data))
	}
}

func TestR5WrapsRound(t *testing.T) {
	double, triple := step(t, "x + x"), step(t, "x * 3")
	power := int64(1)
	for n := range 257 {
		if n < 10 || n > 60 && n < 67 || n > 255 {
			want := int64(0)
			if n < 64 {
				want = int64(uint64(1) << n)
			}
			wantGradient(t, double, n, one(math.MaxInt64), one(1), one(want))
			wantGradient(t, triple, n, one(math.MinInt64), one(1), one(power))
			wantGradient(t, triple, n, one(1), one(-1), one(-power))
		}
		power *= 3
	}
	// The states wrap round as well: of 2^32 + 1 they are 2^33 + 1, 2^34 + 1, .., all modulo 2^64.
	square := step(t, "x * x")
	state, want := int64(1<<32+1), int64(1)
	for n := range 40 {
		wantGradient(t, square, n, one(1<<32+1), one(1), one(want))
		want *= 2 * state
		state *= state
	}
	// Comparisons look at the numbers as they then are.
	turns := step(t, "pick(less(x, 0), x * 5, x + 1)")
	wantGradient(t, turns, 3, one(math.MaxInt64-1), one(1), one(5))
	wantGradient(t, turns, 2, one(math.MaxInt64-1), one(1), one(1))
}

// square are dimensions that are alike, if there are any.
func (d dice) square() []int {
	return [][]int{nil, l(3), l(2, 2), l(2, 2), l(3, 3)}[d.IntN(5)]
}

// step is a graph that makes of a state another one: each of its operations makes an array of the same dimensions.
func (d dice) step(dims []int) api.Graph {
	g := giving(nil, par(0, dims...))
	any := func() int { return len(g.Nodes) - 1 - d.IntN(min(len(g.Nodes), 3)) }
	for range 1 + d.IntN(6) {
		kinds := l(api.Fill, api.Add, api.Sub, api.Mul, api.Mul, api.Mul, api.Max, api.Less, api.Pick)
		if len(dims) > 0 {
			kinds = append(kinds, api.Flip, api.Take, api.Put)
		}
		if len(dims) > 1 {
			kinds = append(kinds, api.Dot, api.Dot, api.Turn)
		}
		next := node(kinds[d.IntN(len(kinds))], any(), any())
		switch next.Op.Kind {
		case api.Fill:
			next = fill(d.Int64N(7)-3, dims...)
		case api.Pick:
			next.Args = append(next.Args, any())
		case api.Flip:
			next = on(api.Op{Kind: api.Flip, At: l(0)}, any())
		case api.Turn:
			next = on(api.Op{Kind: api.Turn, At: l(1, 0)}, any())
		case api.Dot:
			next.Op.At, next.Op.Step = l(d.IntN(2)), l(d.IntN(2))
		case api.Take, api.Put:
			if len(dims) > 1 {
				continue
			}
			if next.Op.Kind == api.Put {
				next.Op.Dims = dims
			}
		}
		g.Nodes = append(g.Nodes, next)
	}
	g.Outs = l(len(g.Nodes) - 1)
	return g
}

// chained is the graph of n steps, one after the other.
func chained(t *testing.T, g api.Graph, n int) api.Graph {
	t.Helper()
	all := giving(l(0), g.Nodes[0])
	for range n {
		further, err := graph.After(all, g)
		if err != api.OK {
			t.Fatalf("%v after itself: %d", g, err)
		}
		all = further
	}
	return all
}

// The same comes as of the graph of all steps, one after the other, and by R5's words.
func TestR5Dice(t *testing.T) {
	d := dice{rand.New(rand.NewPCG(2, 24))}
	fits, many := 0, map[string]bool{}
	for range 4000 {
		dims := d.square()
		g, n, slots := d.step(dims), d.IntN(7), 1+d.IntN(4)
		x, u := d.array(dims), d.array(dims)
		got, err := replay.Gradient(g, n, slots, x, u)
		if want := gradientByWords(t, g, n, x, u); err != api.OK || !same(got, want) {
			t.Fatalf("%d steps of %v, %d slots, from %v on, told %v: %v, %d comes, not %v", n, g, slots, x, u, got, err, want)
		}
		reverse, err := slope.Reverse(chained(t, g, n))
		if err != api.OK {
			continue
		}
		if want := eval(t, reverse, x, u); !same(got, want) {
			t.Fatalf("%d steps of %v, %d slots, from %v on, told %v: %v comes, not %v, as of all steps together", n, g, slots, x, u, got, want)
		}
		fits++
		many[fmt.Sprint(got.Data)] = true
	}
	if fits < 3000 || len(many) < 1000 {
		t.Errorf("%d fit, %d are of their own", fits, len(many))
	}
}

// A change by 2^32 times something shows nothing but the slope: so it does after many steps.
func TestR5ChangeShowsTheSlope(t *testing.T) {
	d := dice{rand.New(rand.NewPCG(3, 24))}
	other := 0
	for range 300 {
		dims := d.square()
		g, n := d.step(dims), d.IntN(30)
		if slices.ContainsFunc(g.Nodes, func(n api.Node) bool {
			return slices.Contains(l(api.Less, api.Max, api.Pick, api.Take, api.Put), n.Op.Kind)
		}) {
			continue
		}
		x, u, by := d.array(dims), d.array(dims), d.array(dims)
		got, _ := replay.Gradient(g, n, 3, x, u)
		changed := of(dims)
		for k := range x.Data {
			changed.Data = append(changed.Data, x.Data[k]+by.Data[k]<<32)
		}
		for range n {
			x, changed = eval(t, g, x), eval(t, g, changed)
		}
		sum, want := int64(0), int64(0)
		for k := range x.Data {
			sum += got.Data[k] * by.Data[k] << 32
			want += u.Data[k] * (changed.Data[k] - x.Data[k])
		}
		if sum != want {
			t.Fatalf("%d steps of %v: %d comes, not %d", n, g, sum, want)
		}
		if sum != 0 {
			other++
		}
	}
	if other < 30 {
		t.Errorf("%d tell something", other)
	}
}

// long is a step of so many parts: nodes, args and Outs; they are 2 and some more.
func long(parts int, dims ...int) api.Graph {
	g := giving(l(0), par(0, dims...))
	for parts -= 2; parts >= 3; parts -= 3 {
		g.Nodes = append(g.Nodes, node(api.Add, len(g.Nodes)-1, len(g.Nodes)-1))
		g.Outs[0]++
	}
	for range parts {
		g.Nodes = append(g.Nodes, fill(5))
	}
	return g
}

// fault is something that is handed in, and what is wrong with it.
type fault[T any] struct {
	is  T
	err api.Errno
}

func wrongSteps() []fault[api.Graph] {
	total := on(api.Op{Kind: api.Sum, At: l(0)}, 0)
	outs := func(g api.Graph, outs ...int) api.Graph { return api.Graph{Nodes: g.Nodes, Outs: outs} }
	return []fault[api.Graph]{
		{giving(l(1), par(0, 2), node(api.Mul, 0, 0)), api.OK}, {giving(l(0), par(0, 2)), api.OK}, {long(512, 2), api.OK},
		// What is wrong with it, whatever else there is.
		{giving(l(2), par(0, 2), node(api.Mul, 0, 0)), api.ErrRange}, {giving(l(-1), par(0, 2)), api.ErrRange}, {giving(l(0, 1), par(0, 2)), api.ErrRange},
		{giving(l(1), par(0, 2), node(api.Mul, 0, 1)), api.ErrOrder}, {giving(nil, node(api.Mul, 0, 1)), api.ErrOrder}, {giving(l(1), par(0, 2), par(0, 2)), api.ErrForm},
		{giving(l(1), par(0, 2), node(0)), api.ErrKind}, {giving(nil, par(0, 2), node(0)), api.ErrKind}, {giving(l(0), par(0, 4097)), api.ErrRange}, {giving(l(0), par(0, 1, 1, 1, 1, 1, 1, 1)), api.ErrRank},
		{giving(l(0), make([]api.Node, 4097)...), api.ErrMuch}, {giving(l(1), par(0, 2), par(1, 3), node(api.Add, 0, 1)), api.ErrShape},
		// It has not one parameter, or does not give one.
		{giving(nil), api.ErrMany}, {giving(l(0), fill(3, 2)), api.ErrMany}, {giving(l(0), par(0, 2), par(1, 2)), api.ErrMany}, {giving(l(1), par(0, 2), par(1, 3)), api.ErrMany}, {giving(nil, par(0, 2)), api.ErrMany},
		{giving(l(0, 0), par(0, 2)), api.ErrMany}, {giving(l(1, 1), par(0, 2), total), api.ErrMany}, {giving(nil, par(0, 2), par(1, 2)), api.ErrMany}, {outs(long(600, 2)), api.ErrMany}, {outs(long(600, 2), 1, 1), api.ErrMany},
		// What it gives has other dimensions.
		{giving(l(1), par(0, 2), total), api.ErrShape}, {giving(l(1), par(0), fill(3, 1)), api.ErrShape}, {giving(l(1), par(0, 2), fill(3, 2, 1)), api.ErrShape}, {giving(l(1), par(0, 2, 3), fill(3, 3, 2)), api.ErrShape},
		{outs(long(514, 2), 171), api.ErrShape},
		// It is too much for Reverse.
		{long(513, 2), api.ErrMuch}, {long(514, 2), api.ErrMuch}, {long(5000, 2), api.ErrMuch}, {outs(long(514, 2), 0), api.ErrMuch},
	}
}

func wrongArrays() []fault[api.Array] {
	return []fault[api.Array]{
		{row(2, 3), api.OK}, {of(l(2), 2), api.ErrShape}, {of(l(2), 1, 2, 3), api.ErrShape}, {one(3), api.ErrShape}, {of(nil), api.ErrShape}, {row(1, 2, 3), api.ErrShape}, {of(l(1, 2), 2, 3), api.ErrShape}, {of(l(2, 1), 2, 3), api.ErrShape},
		{of(l(1, 1, 1, 1, 1, 1, 1), 2), api.ErrRank}, {of(l(-1), 2, 3), api.ErrRange}, {of(l(4097)), api.ErrRange}, {of(l(4096, 17)), api.ErrMuch},
	}
}

func wrongChains() []fault[[2]int] {
	return []fault[[2]int]{
		{[2]int{3, 2}, api.OK}, {[2]int{0, 0}, api.OK}, {[2]int{1, 0}, api.OK}, {[2]int{3, 0}, api.ErrNone}, {[2]int{2, 0}, api.ErrNone}, {[2]int{-1, 2}, api.ErrRange}, {[2]int{257, 2}, api.ErrRange},
		{[2]int{257, 0}, api.ErrRange}, {[2]int{3, -1}, api.ErrRange}, {[2]int{3, 17}, api.ErrRange}, {[2]int{0, 17}, api.ErrRange}, {[2]int{0, -1}, api.ErrRange},
	}
}

// E4: of all that is wrong, what comes first in R5.
func TestR5Wrong(t *testing.T) {
	fine := 0
	for i, g := range wrongSteps() {
		for j, x := range wrongArrays() {
			for k, u := range wrongArrays() {
				for m, c := range wrongChains() {
					errs := []api.Errno{g.err, x.err, u.err, c.err}
					first := slices.IndexFunc(errs, func(err api.Errno) bool { return err != api.OK })
					if first >= 0 {
						wantNoGradient(t, fmt.Sprint("step ", i, ", x ", j, ", u ", k, ", chain ", m), g.is, c.is[0], c.is[1], x.is, u.is, errs[first])
						continue
					}
					fine++
					got, err := replay.Gradient(g.is, c.is[0], c.is[1], x.is, u.is)
					if want := gradientByWords(t, g.is, c.is[0], x.is, u.is); err != api.OK || !same(got, want) {
						t.Errorf("step %d, chain %v: %v, %d comes, not %v", i, c.is, got, err, want)
					}
				}
			}
		}
	}
	if fine != 9 {
		t.Errorf("%d are fine", fine)
	}
}

// As many steps as there may be, and as few slots.
func TestR5Longest(t *testing.T) {
	g := step(t, "x * x - flip{0}(x) * 3", 2)
	x, u := row(2, 3), row(1, -1)
	wantGradient(t, g, 256, x, u, gradientByWords(t, g, 256, x, u))
	wantGradient(t, g, 255, x, u, gradientByWords(t, g, 255, x, u))
	if same(gradientByWords(t, g, 256, x, u), gradientByWords(t, g, 255, x, u)) {
		t.Error("one step more tells nothing")
	}
}
