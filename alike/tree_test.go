package alike_test

import (
	"fmt"
	"math/rand/v2"
	"slices"
	"testing"

	"adjoint/alike"
	"adjoint/api"
	"adjoint/graph"
)

func TestL5Weights(t *testing.T) {
	x, y := par(0, 2, 3), par(1, 2, 3)
	for _, c := range []struct {
		of   term
		want int
	}{
		{x, 0},
		{fill(7, 2, 3), 6},
		{less(x, y), 18},
		{less(x, x), 18},
		{less(fill(7, 2, 3), x), 24},
		{turn(x, 1, 0), 12},
		{sum(x, 0), 9},
		{pick(x, y, less(x, y)), 42},
		{dot(x, turn(y, 1, 0)), 6 + 6 + 4 + 2*12 + 12},
		{join(0, x, y), 24 + 24},
		{spread(fill(1), l(2, 3)), 8},
		{par(0, 0, 3), 0},
		{less(par(0, 0), par(1, 0)), 0},
	} {
		wantLeast(t, giving(c.of), 0, c.want)
	}
	// A tree that stands twice counts twice, an out that is given twice is told twice.
	lower := less(x, y)
	wantLeast(t, giving(less(lower, lower)), 0, 54)
	wantLeast(t, giving(less(lower, lower)), 4, 54)
	wantLeast(t, giving(lower, less(lower, lower), lower, y, lower), 2, 18, 54, 18, 0, 18)
	if best := wantBest(t, giving(lower, lower, x, x), 1); len(best.Outs) != 4 || best.Outs[0] != best.Outs[1] {
		t.Errorf("%s comes", show(best))
	}
	wantLeast(t, api.Graph{Nodes: giving(lower).Nodes}, 3)
	if best := wantBest(t, api.Graph{Nodes: giving(lower).Nodes}, 3); len(best.Outs) != 0 {
		t.Errorf("%s comes", show(best))
	}
}

// What is lightest gets lighter with each round that finds something.
func TestL5Lighter(t *testing.T) {
	x, y, z, u := numbers()
	wantLeasts := func(g api.Graph, want ...int) {
		t.Helper()
		for rounds, least := range want {
			wantLeast(t, g, rounds, least)
		}
	}
	wantLeasts(giving(add(x, fill(0))), 4, 0, 0)
	wantLeasts(giving(add(fill(0), x)), 4, 4, 0)
	wantLeasts(giving(add(mul(x, y), mul(x, z))), 9, 6, 6)
	wantLeasts(giving(pick(u, x, pick(z, x, pick(y, x, most(x, x))))), 15, 12, 8, 4, 0)
	wantLeasts(giving(sub(mul(add(x, y), x), mul(x, add(y, x)))), 15, 15, 1)
	// The product of three matrices, in the cheaper order.
	wantLeasts(giving(dot(dot(par(0, 4, 4), par(1, 4, 4)), par(2, 4, 1))), (48+128)+(24+32), (24+32)+(24+32))
	wantLeasts(giving(dot(par(0, 1, 4), dot(par(1, 4, 4), par(2, 4, 4)))), (48+128)+(24+32), (48+128)+(24+32))
	// A sum of what is spread is a product; the sum of a sum is one.
	wantLeasts(giving(sum(spread(par(0, 2), l(100, 2), 1), 0)), 202+202, 8)
	wantLeasts(giving(sum(sum(par(0, 10, 10, 10), 0), 0)), 1100+110, 1010)
	// What is needed twice is found in each place.
	g := giving(add(mul(x, y), mul(x, z)), mul(add(mul(x, y), mul(x, z)), u))
	wantLeast(t, g, 0, 9, 12)
	wantLeast(t, g, 1, 6, 9)
}

// heavy is a graph, of x alone, that gives a tree of just this weight, whatever round it is: no rule speaks of what is in it.
func heavy(weight int) api.Graph {
	g := giving(par(0))
	node := func(kind int, args ...int) int {
		g.Nodes = append(g.Nodes, api.Node{Op: api.Op{Kind: kind}, Args: args})
		return len(g.Nodes) - 1
	}
	var lay func(weight int) int
	lay = func(weight int) int {
		switch {
		case weight == 0:
			return 0
		case weight == 1:
			return node(api.Fill)
		case weight == 2:
			return node(api.Cut, 0)
		case weight%2 == 0:
			return node(api.Less, 0, lay(weight-3))
		}
		half := lay((weight - 3) / 2)
		return node(api.Less, half, half)
	}
	g.Outs = l(lay(weight))
	return g
}

func TestL5MaxWeight(t *testing.T) {
	for _, rounds := range l(0, 1, 4) {
		for _, weight := range l(0, 1, 2, 3, 4, 5, 6, 7, 8, 9, 100, 101, api.MaxWeight/2, api.MaxWeight-1, api.MaxWeight) {
			wantLeast(t, heavy(weight), rounds, weight)
		}
		for _, weight := range l(api.MaxWeight+1, api.MaxWeight+2, 2*api.MaxWeight, 1<<50, 1<<62, 1<<62+5) {
			g := heavy(weight)
			wantHeavy(t, g, rounds, api.ErrMuch)
			// The others look at no weights.
			wantClasses(t, g, rounds, upTo(len(tidy(t, g).Nodes))...)
			// It is told wherever it stands among others.
			g.Outs = l(0, g.Outs[0])
			wantHeavy(t, g, rounds, api.ErrMuch)
			g.Outs = l(g.Outs[1], 0, 0)
			wantHeavy(t, g, rounds, api.ErrMuch)
			// What is not given, and not needed, weighs nothing.
			g.Outs = l(0)
			wantLeast(t, g, rounds, 0)
		}
	}
	// What each weighs is little, all together is much: each of Outs is told by itself.
	g := heavy(api.MaxWeight)
	g.Outs = slices.Repeat(g.Outs, 5)
	wantLeast(t, g, 4, slices.Repeat(l(api.MaxWeight), 5)...)
}

// Trees so heavy that their weights would wrap round, to any side of nought.
func TestL5FarTooHeavy(t *testing.T) {
	g := giving(par(0))
	for k := range api.MaxForms - 1 {
		g.Nodes = append(g.Nodes, api.Node{Op: api.Op{Kind: api.Less}, Args: l(k, k)})
		g.Outs = l(k + 1)
		switch weight := 3 * (1<<min(k+1, 50) - 1); {
		case weight <= api.MaxWeight:
			wantLeast(t, g, 1, weight)
		case k < 70 || k > 290 || k%31 == 0:
			wantHeavy(t, g, 1, api.ErrMuch)
		}
	}
	// One form on so many, of no entries, that the sum of what they weigh would wrap round.
	g = heavy(api.MaxWeight)
	g.Nodes = append(g.Nodes, api.Node{Op: api.Op{Kind: api.Spread, Dims: l(0)}, Args: g.Outs})
	g.Nodes = append(g.Nodes, api.Node{Op: api.Op{Kind: api.Join, At: l(0)}, Args: slices.Repeat(l(len(g.Nodes)-1), 1<<23)})
	g.Outs = l(len(g.Nodes) - 1)
	if least, err := alike.Least(g, 0); err != api.ErrMuch || len(least) > 0 {
		t.Errorf("%d, %d comes", least, err)
	}
}

// What is far too heavy is light in another form.
func TestL5LightAfterAll(t *testing.T) {
	g := heavy(api.MaxWeight + 1)
	far := g.Outs[0]
	g = above(g, api.Node{Op: api.Op{Kind: api.Fill}}, api.Node{Op: api.Op{Kind: api.Mul}, Args: l(far, far+1)})
	g.Outs = l(far + 2)
	wantHeavy(t, g, 0, api.ErrMuch)
	wantLeast(t, g, 1, 1)
	if best := wantBest(t, g, 1); len(best.Nodes) != 2 {
		t.Errorf("%s comes", show(best))
	}
	g.Outs = l(far+2, far)
	wantHeavy(t, g, 1, api.ErrMuch)
}

// Where nothing weighs anything, each class is as light in all of its forms, and some of these stand on the class itself.
func TestL5NoWeight(t *testing.T) {
	x, y := par(0, 0), par(1, 0)
	none := fill(0, 0)
	d := dice{rand.New(rand.NewPCG(1, 18))}
	for _, g := range []api.Graph{
		giving(add(x, none)), giving(add(none, x)), giving(mul(fill(1, 0), x)), giving(most(x, x), most(most(x, x), x)), giving(sub(x, x), sub(x, y)),
		giving(turn(flip(reform(sum(x), 0)), 0)), giving(add(add(x, none), mul(y, fill(1, 0))), none), giving(mul(add(x, none), add(none, y))),
		giving(less(sum(par(0, 0, 2), 1), sum(spread(y, l(0, 2), 0), 1))), giving(flip(flip(x, 0), 0), turn(turn(par(1, 0, 2), 1, 0), 1, 0)),
	} {
		for rounds := range api.MaxRounds + 1 {
			if _, err := alike.Forms(g, rounds); err == api.ErrMuch {
				break
			}
			wantLeast(t, g, rounds, make([]int, len(g.Outs))...)
			best, _ := alike.Best(g, rounds)
			args := d.args(tidy(t, g))
			got, _ := graph.Eval(best, args)
			want, _ := graph.Eval(g, args)
			if fmt.Sprint(got) != fmt.Sprint(want) {
				t.Errorf("%s after %d: %s comes", show(g), rounds, show(best))
			}
		}
	}
}

// only is a graph with three parameters that gives one term of them.
func only(of, x, y, z term) api.Graph {
	g := giving(of, x, y, z)
	g.Outs = g.Outs[:1]
	return g
}

// Where one tree alone is lightest, Best gives that, with all parameters, whoever needs them.
func TestL5Best(t *testing.T) {
	x, y, z, _ := numbers()
	v := par(0, 2, 3)
	for _, c := range []struct {
		of     term
		rounds int
		want   term
		first  term
	}{
		{add(x, fill(0)), 1, x, x},
		{add(x, fill(0)), 0, add(x, fill(0)), x},
		{mul(fill(1), most(z, z)), 2, z, x},
		{sub(y, y), 1, fill(0), x},
		{less(less(add(fill(2), fill(3)), x), y), 1, less(less(fill(5), x), y), x},
		{sum(sum(v, 0), 0), 1, sum(v, 0, 1), v},
		{turn(turn(v, 1, 0), 1, 0), 1, turn(v, 0, 1), v},
		{turn(turn(v, 1, 0), 1, 0), 2, v, v},
		{less(x, y), 4, less(x, y), x},
	} {
		g, want := only(c.of, c.first, y, z), tidy(t, only(c.want, c.first, y, z))
		if best := wantBest(t, g, c.rounds); show(best) != show(want) {
			t.Errorf("%s after %d: %s comes, not %s", show(g), c.rounds, show(best), show(want))
		}
	}
	// What both need stands once.
	if best := wantBest(t, giving(less(add(x, fill(0)), y), less(less(x, y), y)), 1); len(best.Nodes) != 4 {
		t.Errorf("%s comes", show(best))
	}
}

// Best answers the same each time, however many forms are as light.
func TestL5BestAgain(t *testing.T) {
	d := dice{rand.New(rand.NewPCG(2, 18))}
	for range 20 {
		g := d.graph(3, 8, nil, api.Add, api.Mul, api.Sub, api.Fill, api.Max)
		rounds := d.IntN(3)
		first, err := alike.Best(g, rounds)
		for range 30 {
			if again, againErr := alike.Best(g, rounds); show(again) != show(first) || err != againErr {
				t.Fatalf("%s after %d: first %s, %d comes, then %s, %d", show(g), rounds, show(first), err, show(again), againErr)
			}
		}
	}
}
