package alike_test

import (
	"math"
	"slices"
	"testing"

	"adjoint/alike"
	"adjoint/api"
	"adjoint/graph"
	"adjoint/text"
)

// build is the graph of the function f in a text.
func build(t *testing.T, s string, dims ...[]int) api.Graph {
	t.Helper()
	p, _ := text.Read(s)
	g, err := graph.Build(p, "f", dims)
	if err != api.OK {
		t.Fatalf("%s: %d", s, err)
	}
	return g
}

// every is a graph with each kind of operation.
func every() api.Graph {
	x, y, v := par(0, 2, 2), par(1, 2, 2), par(2, 2)
	n := func(op api.Op, kids ...term) term { return on(op, kids...) }
	return giving(add(x, y), sub(x, y), mul(x, y), most(x, y), less(x, y), pick(x, y, x), spread(v, l(2, 2), 1), sum(x, 0), turn(x, 1, 0), reform(x, 4),
		n(api.Op{Kind: api.Cut, Lo: l(0, 1), Hi: l(2, 2), Step: l(1, 1)}, x), n(api.Op{Kind: api.Pad, Lo: l(0), Hi: l(1), Step: l(2)}, v),
		flip(x, 0), dot(x, y), join(0, x, y), take(x, v), n(api.Op{Kind: api.Put, Dims: l(3)}, x, v), fill(7, 2, 2), v)
}

// At first each node is a form in a class of its own.
func TestL1NoRound(t *testing.T) {
	x, y, _, _ := numbers()
	for _, g := range []api.Graph{giving(), giving(x), giving(add(x, fill(0)), x), giving(add(x, y), add(y, x)), giving(most(x, x), sub(x, x)), every()} {
		tidy := tidy(t, g)
		wantClasses(t, g, 0, upTo(len(tidy.Nodes))...)
		wantForms(t, g, len(tidy.Nodes))
		wantBest(t, g, 0)
	}
	// Such as are alike are one node, and what nobody needs is none.
	g := api.Graph{Nodes: slices.Concat(giving(add(x, y)).Nodes, giving(add(x, y), mul(y, x)).Nodes[2:]), Outs: l(3, 2)}
	wantClasses(t, g, 0, 0, 1, 2)
	wantForms(t, g, 3, 4)
}

// Operations of which no rule speaks have no other form, whatever round it is.
func TestL1NoRule(t *testing.T) {
	x, v := par(0, 2, 2), par(1, 2)
	g := giving(less(x, x), on(api.Op{Kind: api.Cut, Lo: l(0, 0), Hi: l(2, 2), Step: l(1, 1)}, x), on(api.Op{Kind: api.Pad, Lo: l(0), Hi: l(0), Step: l(1)}, v),
		join(0, x), join(1, x, x), take(x, v), on(api.Op{Kind: api.Put, Dims: l(2)}, x, v), x)
	for rounds := range api.MaxRounds + 1 {
		wantForms(t, g, 9, 9, 9, 9, 9)
		wantClasses(t, g, rounds, upTo(9)...)
	}
}

// A round looks at forms as they stand at its beginning: what comes of one is seen by the next.
func TestL1RoundByRound(t *testing.T) {
	x, y, z, u := numbers()
	become(t, 1, most(x, x), x)
	become(t, 2, pick(y, x, most(x, x)), x)
	become(t, 3, pick(z, x, pick(y, x, most(x, x))), x)
	become(t, 4, pick(u, x, pick(z, x, pick(y, x, most(x, x)))), x)
	stayTwo(t, pick(par(4), x, pick(u, x, pick(z, x, pick(y, x, most(x, x))))), x)
	become(t, 2, mul(x, sub(y, y)), fill(0))
	become(t, 3, mul(z, mul(x, sub(y, y))), fill(0))
	// A form that is new in the round is not looked at in it, nor where it comes to stand.
	become(t, 2, add(fill(0), x), x)
	become(t, 2, turn(turn(par(0, 2, 2), 1, 0), 1, 0), par(0, 2, 2))
	// Example 4 of the document.
	g := build(t, "fn f(x: [2]) = x * 1;", l(2))
	wantForms(t, g, 4, 6, 6, 8)
	wantClasses(t, g, 1, 0, 1, 2, 3)
	wantClasses(t, g, 2, 0, 1, 2, 0)
}

// Where two forms have become the same operation on the same classes, their classes are one in the same round, however far up that goes.
func TestL1SameOperations(t *testing.T) {
	x, y, z, _ := numbers()
	one := most(x, x)
	become(t, 1, less(one, y), less(x, y))
	become(t, 1, less(y, one), less(y, x))
	become(t, 1, less(one, one), less(x, x))
	become(t, 1, pick(y, one, z), pick(y, x, z))
	become(t, 1, most(x, most(x, most(x, x))), x)
	become(t, 2, pick(y, x, pick(y, x, one)), x)
	become(t, 1, join(0, par(0, 2), most(par(0, 2), par(0, 2)), par(0, 2)), join(0, par(0, 2), par(0, 2), par(0, 2)))
	become(t, 1, take(par(0, 2), sum(par(0, 2))), take(par(0, 2), par(0, 2)))
	// Up to the top of two towers, each on its own; forms that are the same are one then.
	low, high := x, one
	for range 60 {
		low, high = less(y, low), less(y, high)
	}
	g := giving(low, high)
	wantClasses(t, g, 0, upTo(123)...)
	wantClasses(t, g, 1, slices.Concat(upTo(62), l(0), upTo(62)[2:])...)
	wantForms(t, g, 123, 63, 63)
}

// And nowhere else: another field, another place, another number of arguments, another kind.
func TestL1OtherOperations(t *testing.T) {
	x, v := par(0, 2, 2), par(1, 2)
	one := most(x, x)
	stayTwo(t, flip(one, 0), flip(x, 1))
	stayTwo(t, flip(one, 0), flip(x, 0, 1))
	stayTwo(t, sum(one, 0), sum(x, 1))
	stayTwo(t, join(0, one), join(1, x))
	stayTwo(t, join(0, one), turn(x, 1, 0))
	stayTwo(t, less(one, turn(x, 1, 0)), less(turn(x, 1, 0), x))
	stayTwo(t, take(one, v), take(turn(x, 1, 0), v))
	cut := func(a term, lo, hi, step []int) term {
		return on(api.Op{Kind: api.Cut, Lo: lo, Hi: hi, Step: step}, a)
	}
	become(t, 1, cut(one, l(0, 0), l(1, 1), l(1, 1)), cut(x, l(0, 0), l(1, 1), l(1, 1)))
	stayTwo(t, cut(one, l(0, 0), l(1, 1), l(1, 1)), cut(x, l(0, 1), l(1, 2), l(1, 1)))
	stayTwo(t, cut(one, l(0, 0), l(2, 1), l(2, 1)), cut(x, l(0, 0), l(1, 1), l(1, 1)))
	stayTwo(t, cut(one, l(0, 0), l(1, 1), l(2, 1)), cut(x, l(0, 0), l(1, 1), l(1, 1)))
	stayTwo(t, par(0, 2), par(1, 2))
	stayTwo(t, fill(0, 0), fill(1, 0))
	stayTwo(t, par(0, 0), fill(0, 0))
}

// Graphs that are wrong in this and that way.
func wrongs() map[api.Errno]api.Graph {
	x := giving(par(0)).Nodes[0]
	node := func(kind int, args ...int) api.Node { return api.Node{Op: api.Op{Kind: kind}, Args: args} }
	return map[api.Errno]api.Graph{
		api.ErrMuch:  {Nodes: slices.Repeat([]api.Node{node(api.Fill)}, api.MaxNodes+1)},
		api.ErrOrder: {Nodes: []api.Node{x, node(api.Add, 0, 1)}},
		api.ErrForm:  {Nodes: []api.Node{node(api.Fill), x}},
		api.ErrMany:  {Nodes: []api.Node{x, node(api.Add, 0)}},
		api.ErrKind:  {Nodes: []api.Node{x, node(99, 0)}},
		api.ErrShape: {Nodes: []api.Node{x, {Op: api.Op{Kind: api.Fill, Dims: l(2)}}, node(api.Add, 0, 1)}},
		api.ErrRank:  {Nodes: []api.Node{{Op: api.Op{Kind: api.Fill, Dims: make([]int, 7)}}}},
		api.ErrRange: {Nodes: []api.Node{x}, Outs: l(api.MaxNodes)},
	}
}

func TestL2WrongGraphs(t *testing.T) {
	for want, g := range wrongs() {
		for _, rounds := range l(0, 1, 4, -1, 5, math.MinInt, math.MaxInt) {
			wantErr(t, g, rounds, want)
		}
		// It is wrong even where nobody needs it, and ahead of what is too much.
		g.Nodes = append(slices.Clone(g.Nodes), slices.Repeat([]api.Node{{Op: api.Op{Kind: api.Fill}}}, 400)...)
		wantErr(t, g, 4, want)
	}
}

func TestL2Rounds(t *testing.T) {
	for _, g := range []api.Graph{{}, giving(add(par(0), par(1))), every(), wide(api.MaxForms + 1)} {
		for _, rounds := range l(-1, -2, api.MaxRounds+1, api.MaxRounds+2, math.MinInt, math.MaxInt) {
			wantErr(t, g, rounds, api.ErrRange)
		}
	}
	for rounds := range api.MaxRounds + 1 {
		wantClasses(t, api.Graph{}, rounds)
		wantClasses(t, giving(par(0), par(0)), rounds, 0)
		wantLeast(t, api.Graph{}, rounds)
	}
	wantForms(t, api.Graph{}, 0, 0, 0, 0, 0)
}

// wide is a graph of so many parameters.
func wide(many int) api.Graph {
	var all []term
	for k := range many {
		all = append(all, par(k))
	}
	return giving(all...)
}

// above is a graph with some terms above its nodes.
func above(g api.Graph, nodes ...api.Node) api.Graph {
	for _, node := range nodes {
		g.Outs = append(g.Outs, len(g.Nodes))
		g.Nodes = append(g.Nodes, node)
	}
	return g
}

func TestL2ManyNodes(t *testing.T) {
	for rounds := range api.MaxRounds + 1 {
		most := wide(api.MaxForms)
		wantClasses(t, most, rounds, upTo(api.MaxForms)...)
		if many, err := alike.Forms(most, rounds); many != api.MaxForms || err != api.OK {
			t.Errorf("%d, %d comes", many, err)
		}
		wantLeast(t, most, rounds, make([]int, api.MaxForms)...)
		wantErr(t, wide(api.MaxForms+1), rounds, api.ErrMuch)
		// It is the tidy graph that counts.
		same := api.Node{Op: api.Op{Kind: api.Less}, Args: l(0, 1)}
		wantClasses(t, above(wide(api.MaxForms-1), slices.Repeat([]api.Node{same}, 2000)...), rounds, upTo(api.MaxForms)...)
		unused := above(wide(2), slices.Repeat([]api.Node{{Op: api.Op{Kind: api.Fill}}}, 1000)...)
		for k := 2; k < len(unused.Nodes); k++ {
			unused.Nodes[k].Op.Value = int64(k)
		}
		wantErr(t, unused, rounds, api.ErrMuch)
		unused.Outs = l(5)
		wantClasses(t, unused, rounds, 0, 1, 2)
		// Parameters are nodes, whoever needs them.
		params := wide(api.MaxForms + 1)
		params.Outs = nil
		wantErr(t, params, rounds, api.ErrMuch)
	}
}

func TestL2ManyForms(t *testing.T) {
	sum := api.Node{Op: api.Op{Kind: api.Add}, Args: l(0, 1)}
	// A sum and what it is swapped, beside parameters.
	fits := above(wide(api.MaxForms-2), sum)
	wantForms(t, fits, api.MaxForms-1, api.MaxForms, api.MaxForms, api.MaxForms, api.MaxForms)
	wantClasses(t, fits, 4, upTo(api.MaxForms-1)...)
	wantLeast(t, fits, 4, append(make([]int, api.MaxForms-2), 3)...)
	more := above(wide(api.MaxForms-1), sum)
	wantForms(t, more, api.MaxForms)
	for _, rounds := range l(1, 2, 3, 4) {
		wantErr(t, more, rounds, api.ErrMuch)
	}
	wantErr(t, more, 5, api.ErrRange)
	// In a later round: each of these grows by four, and by four, and then by more.
	var all []term
	for k := range 23 {
		all = append(all, add(add(par(3*k), par(3*k+1)), par(3*k+2)))
	}
	wantForms(t, giving(all...), 23*5, 23*9, 23*13)
	wantErr(t, giving(all...), 3, api.ErrMuch)
	wantErr(t, giving(all...), 4, api.ErrMuch)
}

// There are too many after the first round, though there would be fewer after the second one.
func TestL2TooManyOnce(t *testing.T) {
	gadgets := func(many int) api.Graph {
		var all []term
		for k := range many {
			x := par(k, 2, 2)
			all = append(all, add(turn(turn(x, 1, 0), 1, 0), flip(flip(x, 0), 0)))
		}
		return giving(all...)
	}
	wantForms(t, gadgets(1), 6, 9, 8)
	wantForms(t, gadgets(33), 33*6, 33*9, 33*8)
	wantForms(t, gadgets(34), 34*6)
	for _, rounds := range l(1, 2, 3, 4) {
		wantErr(t, gadgets(34), rounds, api.ErrMuch)
	}
}

func TestL4Classes(t *testing.T) {
	x, y, z, _ := numbers()
	// The first one, wherever the others stand.
	g := giving(most(y, y), add(x, y), add(x, fill(0)), add(y, x), most(x, x), y, less(z, z))
	wantClasses(t, g, 0, upTo(10)...)
	wantClasses(t, g, 1, 0, 1, 2, 1, 4, 5, 0, 4, 0, 9)
	// Not each parameter is needed; all are nodes.
	g = giving(most(y, y), x, z)
	g.Outs = g.Outs[:1]
	wantClasses(t, g, 0, 0, 1, 2, 3)
	wantClasses(t, g, 1, 0, 1, 2, 1)
	wantForms(t, g, 4, 4)
	// The graph as it stands is no matter: its tidy one is.
	g = api.Graph{Nodes: slices.Concat(giving(x, y).Nodes, []api.Node{{Op: api.Op{Kind: api.Fill, Value: 9}}, {Op: api.Op{Kind: api.Fill, At: l(5)}}, {Op: api.Op{Kind: api.Fill}},
		{Op: api.Op{Kind: api.Add}, Args: l(1, 4)}, {Op: api.Op{Kind: api.Add}, Args: l(1, 3)}}), Outs: l(6, 5)}
	wantClasses(t, g, 0, 0, 1, 2, 3)
	wantClasses(t, g, 1, 0, 1, 2, 1)
	wantForms(t, g, 4, 5)
}
