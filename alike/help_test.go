package alike_test

import (
	"fmt"
	"slices"
	"strings"
	"testing"

	"adjoint/alike"
	"adjoint/api"
	"adjoint/array"
	"adjoint/graph"
)

// l is a list.
func l(numbers ...int) []int { return numbers }

// term is an operation on terms.
type term struct {
	op   api.Op
	kids []term
}

// par is parameter k.
func par(k int, dims ...int) term {
	return term{op: api.Op{Kind: api.Param, Dims: dims, At: l(k)}}
}

// on is an operation on terms.
func on(op api.Op, kids ...term) term { return term{op, kids} }

// fill is a number everywhere.
func fill(n int64, dims ...int) term {
	return on(api.Op{Kind: api.Fill, Value: n, Dims: dims})
}

func add(a, b term) term     { return on(api.Op{Kind: api.Add}, a, b) }
func sub(a, b term) term     { return on(api.Op{Kind: api.Sub}, a, b) }
func mul(a, b term) term     { return on(api.Op{Kind: api.Mul}, a, b) }
func most(a, b term) term    { return on(api.Op{Kind: api.Max}, a, b) }
func less(a, b term) term    { return on(api.Op{Kind: api.Less}, a, b) }
func pick(a, b, c term) term { return on(api.Op{Kind: api.Pick}, a, b, c) }
func take(a, b term) term    { return on(api.Op{Kind: api.Take}, a, b) }

func sum(a term, at ...int) term      { return on(api.Op{Kind: api.Sum, At: at}, a) }
func turn(a term, at ...int) term     { return on(api.Op{Kind: api.Turn, At: at}, a) }
func flip(a term, at ...int) term     { return on(api.Op{Kind: api.Flip, At: at}, a) }
func reform(a term, dims ...int) term { return on(api.Op{Kind: api.Reform, Dims: dims}, a) }
func spread(a term, dims []int, at ...int) term {
	return on(api.Op{Kind: api.Spread, Dims: dims, At: at}, a)
}

// dot is the product of two matrices.
func dot(a, b term) term { return on(api.Op{Kind: api.Dot, At: l(1), Step: l(0)}, a, b) }

// join is terms one behind the other.
func join(at int, kids ...term) term { return on(api.Op{Kind: api.Join, At: l(at)}, kids...) }

// params are the parameters in terms, by their numbers: all from 0 on must be there.
func params(all []term) []api.Node {
	found := map[int]api.Node{}
	var look func(t term)
	look = func(t term) {
		if t.op.Kind == api.Param {
			found[t.op.At[0]] = api.Node{Op: t.op}
		}
		for _, kid := range t.kids {
			look(kid)
		}
	}
	for _, t := range all {
		look(t)
	}
	var out []api.Node
	for k := range len(found) {
		out = append(out, found[k])
	}
	return out
}

// giving is a graph that gives terms: all that is in them, as often as it stands there.
func giving(all ...term) api.Graph {
	g := api.Graph{Nodes: params(all)}
	var lay func(t term) int
	lay = func(t term) int {
		if t.op.Kind == api.Param {
			return t.op.At[0]
		}
		node := api.Node{Op: t.op}
		for _, kid := range t.kids {
			node.Args = append(node.Args, lay(kid))
		}
		g.Nodes = append(g.Nodes, node)
		return len(g.Nodes) - 1
	}
	for _, t := range all {
		g.Outs = append(g.Outs, lay(t))
	}
	return g
}

// show tells a graph, each list with its numbers alone: nil and empty are told alike.
func show(g api.Graph) string {
	var lines []string
	for _, node := range g.Nodes {
		op := node.Op
		lines = append(lines, fmt.Sprintf("%d %d dims%d at%d lo%d hi%d step%d of%d", op.Kind, op.Value, op.Dims, op.At, op.Lo, op.Hi, op.Step, node.Args))
	}
	return strings.Join(lines, "; ") + fmt.Sprintf("; gives%d", g.Outs)
}

// cut is the beginning of what may be very long.
func cut(s string) string {
	if len(s) > 1500 {
		return fmt.Sprintf("%.1500s.. (%d bytes)", s, len(s))
	}
	return s
}

// tidy is the tidy graph of a right one.
func tidy(t *testing.T, g api.Graph) api.Graph {
	t.Helper()
	out, err := graph.Tidy(g)
	if err != api.OK {
		t.Fatalf("%s is wrong: %d", cut(show(g)), err)
	}
	return out
}

// wantErr: all four tell this error, and nothing else.
func wantErr(t *testing.T, g api.Graph, rounds int, want api.Errno) {
	t.Helper()
	classes, err := alike.Classes(g, rounds)
	if err != want || len(classes) > 0 {
		t.Errorf("Classes of %s after %d: %v, %d comes, not %d", cut(show(g)), rounds, classes, err, want)
	}
	if many, err := alike.Forms(g, rounds); err != want || many != 0 {
		t.Errorf("Forms of %s after %d: %d, %d comes, not %d", cut(show(g)), rounds, many, err, want)
	}
	wantHeavy(t, g, rounds, want)
}

// wantHeavy: Least and Best tell this error, and nothing else.
func wantHeavy(t *testing.T, g api.Graph, rounds int, want api.Errno) {
	t.Helper()
	if least, err := alike.Least(g, rounds); err != want || len(least) > 0 {
		t.Errorf("Least of %s after %d: %v, %d comes, not %d", cut(show(g)), rounds, least, err, want)
	}
	if best, err := alike.Best(g, rounds); err != want || len(best.Nodes)+len(best.Outs) > 0 {
		t.Errorf("Best of %s after %d: %s, %d comes, not %d", cut(show(g)), rounds, cut(show(best)), err, want)
	}
}

// wantForms: after no, one, two .. rounds there are so many forms.
func wantForms(t *testing.T, g api.Graph, want ...int) {
	t.Helper()
	for rounds, many := range want {
		if got, err := alike.Forms(g, rounds); err != api.OK || got != many {
			t.Errorf("Forms of %s after %d: %d, %d comes, not %d", cut(show(g)), rounds, got, err, many)
		}
	}
}

// wantClasses: these are the classes after so many rounds.
func wantClasses(t *testing.T, g api.Graph, rounds int, want ...int) {
	t.Helper()
	if got, err := alike.Classes(g, rounds); err != api.OK || !slices.Equal(got, want) {
		t.Errorf("Classes of %s after %d: %v, %d comes, not %v", cut(show(g)), rounds, got, err, want)
	}
}

// wantLeast: so much do the lightest trees weigh after so many rounds, and Best gives such.
func wantLeast(t *testing.T, g api.Graph, rounds int, want ...int) {
	t.Helper()
	got, err := alike.Least(g, rounds)
	if err != api.OK || !slices.Equal(got, want) {
		t.Errorf("Least of %s after %d: %v, %d comes, not %v", cut(show(g)), rounds, got, err, want)
	}
	wantBest(t, g, rounds)
}

// wantBest: what Best gives is right, has the parameters of g, and weighs, tree by tree, what Least says. It is answered.
func wantBest(t *testing.T, g api.Graph, rounds int) api.Graph {
	t.Helper()
	least, _ := alike.Least(g, rounds)
	best, err := alike.Best(g, rounds)
	if err != api.OK || graph.Wrong(best) != api.OK {
		t.Fatalf("Best of %s after %d: %s, %d comes: %d", cut(show(g)), rounds, cut(show(best)), err, graph.Wrong(best))
	}
	params := graph.Params(g)
	if graph.Params(best) != params || show(api.Graph{Nodes: best.Nodes[:params]}) != show(api.Graph{Nodes: tidy(t, g).Nodes[:params]}) {
		t.Errorf("Best of %s after %d: %s comes: these are other parameters", cut(show(g)), rounds, cut(show(best)))
	}
	if weighed := weighed(best); !slices.Equal(weighed, least) {
		t.Errorf("Best of %s after %d: %s comes: it weighs %d, not %d", cut(show(g)), rounds, cut(show(best)), weighed, least)
	}
	return best
}

// weighed is what each tree weighs that a right graph gives; none is very heavy.
func weighed(g api.Graph) []int {
	dims, _ := graph.Dims(g)
	all := make([]int, len(g.Nodes))
	for i, node := range g.Nodes {
		var of [][]int
		for _, at := range node.Args {
			all[i] += all[at]
			of = append(of, dims[at])
		}
		if node.Op.Kind != api.Param {
			own, _ := array.Weight(node.Op, of)
			all[i] += own
		}
	}
	var out []int
	for _, at := range g.Outs {
		out = append(out, all[at])
	}
	return out
}

// alikeAfter is after how many rounds the first two of what a graph gives are in one class: -1, if that does not come. Once they are, they stay so.
func alikeAfter(t *testing.T, g api.Graph) int {
	t.Helper()
	outs := tidy(t, g).Outs
	after := -1
	for rounds := range api.MaxRounds + 1 {
		classes, err := alike.Classes(g, rounds)
		if err == api.ErrMuch {
			break
		}
		if err != api.OK {
			t.Fatalf("%s: %d", cut(show(g)), err)
		}
		one := classes[outs[0]] == classes[outs[1]]
		if one && after < 0 {
			after = rounds
		}
		if !one && after >= 0 {
			t.Errorf("%s: what was one after %d rounds is two after %d", cut(show(g)), after, rounds)
		}
	}
	return after
}

// become: two terms become one in this round, not ahead of it.
func become(t *testing.T, round int, a, b term) {
	t.Helper()
	if got := alikeAfter(t, giving(a, b)); got != round {
		t.Errorf("%s: they become one after %d rounds, not %d", cut(show(giving(a, b))), got, round)
	}
	if got := alikeAfter(t, giving(b, a)); got != round {
		t.Errorf("%s: they become one after %d rounds, not %d", cut(show(giving(b, a))), got, round)
	}
}

// stayTwo: two terms never become one.
func stayTwo(t *testing.T, a, b term) {
	t.Helper()
	become(t, -1, a, b)
}

// dimsOf are the dimensions of a term.
func dimsOf(t term) []int {
	g := giving(t)
	dims, _ := graph.Dims(g)
	return dims[g.Outs[0]]
}
