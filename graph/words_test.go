package graph_test

import (
	"fmt"
	"math/rand/v2"
	"slices"
	"strings"
	"testing"

	"adjoint/api"
	"adjoint/array"
	"adjoint/graph"
	"adjoint/sense"
	"adjoint/text"
	"adjoint/view"
)

// wrongByHand is what is wrong with a graph by the words of G2: of all that is wrong the first.
func wrongByHand(g api.Graph) (all []api.Errno, dims [][]int) {
	if len(g.Nodes) > 4096 {
		all = append(all, api.ErrMuch)
	}
	paramsEnd := slices.IndexFunc(append(slices.Clone(g.Nodes), fill(0)), func(n api.Node) bool { return n.Op.Kind != api.Param })
	for i, node := range g.Nodes {
		var of [][]int
		for _, at := range node.Args {
			if at < 0 || at >= i {
				return append(all, api.ErrOrder), nil
			}
			of = append(of, dims[at])
		}
		if node.Op.Kind == api.Param {
			if i >= paramsEnd || len(node.Op.At) != 1 || node.Op.At[0] != i {
				all = append(all, api.ErrForm)
			}
			if len(node.Args) > 0 {
				all = append(all, api.ErrMany)
			}
			if _, err := view.Size(node.Op.Dims); err != api.OK {
				all = append(all, err)
			}
			dims = append(dims, node.Op.Dims)
			continue
		}
		made, err := array.Dims(node.Op, of)
		if err != api.OK {
			return append(all, err), nil
		}
		dims = append(dims, made)
	}
	for _, at := range g.Outs {
		if at < 0 || at >= len(g.Nodes) {
			all = append(all, api.ErrRange)
		}
	}
	return append(all, api.OK), dims
}

// dice are thrown the same way each time.
type dice struct{ *rand.Rand }

// op is an operation that may fit dimensions of few kinds; many fields of it may mean nothing.
func (d dice) op() api.Op {
	some := func() []int { return [][]int{nil, l(0), l(1), l(2), l(0, 1), l(1, 0), l(2, 2)}[d.IntN(7)] }
	op := api.Op{Kind: 2 + d.IntN(18), Value: int64(d.IntN(3))}
	if d.IntN(3) > 0 {
		op.Kind = []int{api.Add, api.Mul, api.Sub, api.Fill, api.Sum}[d.IntN(5)]
	}
	op.Dims, op.At = some(), some()
	if op.Kind == api.Fill || d.IntN(2) == 0 {
		op.Dims = [][]int{nil, l(2), l(2, 2)}[d.IntN(3)]
	}
	if d.IntN(2) == 0 {
		op.Lo, op.Hi, op.Step = some(), some(), some()
	}
	if op.Kind == api.Cut || op.Kind == api.Pad {
		rank := 1 + d.IntN(2)
		op.Lo, op.Hi, op.Step = make([]int, rank), slices.Repeat(l(1+d.IntN(2)), rank), ones(rank)
	}
	return op
}

// graph is one with some parameters; wrong: now and then something of it is.
func (d dice) graph(params [][]int, nodes int, wrong bool) api.Graph {
	g := api.Graph{}
	odd := func() bool { return wrong && d.IntN(150) == 0 }
	for k, dims := range params {
		g.Nodes = append(g.Nodes, par(k, dims...))
		if odd() {
			g.Nodes[k].Op.At = l(d.IntN(3))
		}
		if odd() {
			g.Nodes[k].Args = l(d.IntN(4) - 1)
		}
		if odd() {
			g.Nodes[k].Op.Dims = [][]int{l(-1), ones(7), l(4096, 17)}[d.IntN(3)]
		}
	}
	for range nodes {
		g.Nodes = append(g.Nodes, d.node(g, odd))
	}
	for range d.IntN(4) {
		if len(g.Nodes) > 0 {
			g.Outs = append(g.Outs, len(g.Nodes)-1-d.IntN(min(4, len(g.Nodes))))
		}
	}
	if odd() {
		g.Outs = append(g.Outs, d.IntN(3)-1+len(g.Nodes)*d.IntN(2), 0)
	}
	return g
}

// node is one that can stand behind those of a graph, unless it is odd.
func (d dice) node(g api.Graph, odd func() bool) api.Node {
	if odd() {
		return par(d.IntN(len(g.Nodes)+1), 2)
	}
	if odd() {
		return node(api.Add, d.IntN(len(g.Nodes)+3)-1, d.IntN(len(g.Nodes)+3)-1)
	}
	if odd() {
		return node([]int{-1, 0, 20}[d.IntN(3)])
	}
	if len(g.Nodes) > 0 && d.IntN(4) == 0 {
		// One that stands already, on args that may be alike to its own.
		like := g.Nodes[d.IntN(len(g.Nodes))]
		if like.Op.Kind != api.Param {
			return api.Node{Op: like.Op, Args: slices.Clone(like.Args)}
		}
	}
	_, dims := wrongByHand(g)
	for range 30 {
		node := api.Node{Op: d.op()}
		var of [][]int
		for range d.IntN(4) {
			if len(dims) > 0 {
				at := len(dims) - 1 - d.IntN(min(len(dims), 6))
				node.Args, of = append(node.Args, at), append(of, dims[at])
			}
		}
		if _, err := array.Dims(node.Op, of); err == api.OK || odd() {
			return node
		}
	}
	return fill(int64(d.IntN(3)))
}

// args are arguments of a graph.
func (d dice) args(g api.Graph) []api.Array {
	args := nothing(g)
	for _, a := range args {
		for i := range a.Data {
			a.Data[i] = d.Int64N(9) - 4
		}
	}
	return args
}

func (d dice) shapes() [][]int {
	var all [][]int
	for range d.IntN(4) {
		all = append(all, [][]int{nil, l(2), l(2, 2), l(0)}[d.IntN(4)])
	}
	return all
}

// Graphs of all sorts are what the words of G1 to G4 and G7 say.
func TestG1ToG4ByTheirWords(t *testing.T) {
	d := dice{rand.New(rand.NewPCG(5, 14))}
	seen, fewer := map[api.Errno]int{}, 0
	for range 10000 {
		g := d.graph(d.shapes(), d.IntN(14), true)
		all, wantDims := wrongByHand(g)
		wantWrong(t, g, all[0])
		seen[all[0]]++
		if t.Failed() {
			return
		}
		if all[0] != api.OK {
			continue
		}
		if dims, err := graph.Dims(g); err != api.OK || !sameDims(dims, wantDims) {
			t.Fatalf("Dims of %s: %v, %d comes, not %v", show(g), dims, err, wantDims)
		}
		want := tidyByHand(g, graph.Params(g))
		tidy, err := graph.Tidy(g)
		if err != api.OK || !sameGraph(tidy, want) || graph.Wrong(tidy) != api.OK {
			t.Fatalf("Tidy of %s: %s, %d comes, not %s", show(g), show(tidy), err, show(want))
		}
		if len(tidy.Nodes) < len(g.Nodes) && len(tidy.Nodes) > graph.Params(g)+2 {
			fewer++
		}
		args := d.args(g)
		given := evalByHand(t, g, args)
		wantEval(t, g, args, given...)
		wantEval(t, tidy, args, given...)
		weight := 0
		for _, node := range g.Nodes[graph.Params(g):] {
			var of [][]int
			for _, at := range node.Args {
				of = append(of, wantDims[at])
			}
			w, _ := array.Weight(node.Op, of)
			weight += w
		}
		if got, err := graph.Weight(g); err != api.OK || got != weight {
			t.Fatalf("Weight of %s: %d, %d comes, not %d", show(g), got, err, weight)
		}
		if t.Failed() {
			return
		}
	}
	for _, err := range []api.Errno{api.OK, api.ErrKind, api.ErrMany, api.ErrOrder, api.ErrForm, api.ErrRange, api.ErrShape, api.ErrRank, api.ErrMuch} {
		if seen[err] < 20 {
			t.Errorf("%d was told %d times alone: %v", err, seen[err], seen)
		}
	}
	if fewer < 1000 {
		t.Errorf("of %d graphs alone some nodes went", fewer)
	}
}

// Two graphs of all sorts, one after the other, are what the words of G6 say, and worth what the second gives of what the first gives.
func TestG6ByItsWords(t *testing.T) {
	d := dice{rand.New(rand.NewPCG(6, 14))}
	seen, great := map[api.Errno]int{}, 0
	for range 20000 {
		f := d.graph(d.shapes(), d.IntN(12), true)
		wrongF, dimsF := wrongByHand(f)
		var params [][]int
		if wrongF[0] == api.OK {
			for _, at := range f.Outs {
				params = append(params, dimsF[at])
			}
		}
		switch d.IntN(12) {
		case 0:
			params = append(params, l(2))
		case 1:
			params = params[:len(params)/2]
		case 2:
			if len(params) > 0 {
				params[d.IntN(len(params))] = l(1 + d.IntN(3))
			}
		}
		g := d.graph(params, d.IntN(12), true)
		got, err := graph.After(f, g)
		wrongG, _ := wrongByHand(g)
		want := wrongF[0]
		if want == api.OK {
			want = wrongG[0]
		}
		if want == api.OK && graph.Params(g) != len(f.Outs) {
			want = api.ErrMany
		}
		for k := 0; k < len(f.Outs) && want == api.OK; k++ {
			if !slices.Equal(g.Nodes[k].Op.Dims, dimsF[f.Outs[k]]) {
				want = api.ErrShape
			}
		}
		seen[want]++
		if want != api.OK {
			noGraph(t, show(f)+" and "+show(g), want)(got, err)
			continue
		}
		both := chainByHand(f, g)
		isGraph(t, show(f)+" and "+show(g), tidyByHand(both, graph.Params(f)))(got, err)
		args := d.args(f)
		wantEval(t, got, args, evalByHand(t, g, evalByHand(t, f, args))...)
		if t.Failed() {
			return
		}
		if len(got.Nodes) > 6 {
			great++
		}
	}
	for _, err := range []api.Errno{api.OK, api.ErrMany, api.ErrShape, api.ErrOrder, api.ErrForm, api.ErrRange} {
		if seen[err] < 20 {
			t.Errorf("%d was told %d times alone: %v", err, seen[err], seen)
		}
	}
	if great < 1000 {
		t.Errorf("%d graphs alone have some nodes", great)
	}
}

// body is an expr over x, y and functions; most of them fit.
func (d dice) body(depth int, funcs []string) string {
	of := func(all ...string) string { return all[d.IntN(len(all))] }
	if depth == 0 || d.IntN(8) == 0 {
		return of("x", "x", "y", "y", "0", "1", "2")
	}
	sub := func() string { return d.body(depth-1, funcs) }
	switch d.IntN(12) {
	case 0, 1, 2:
		return "(" + sub() + of(" + ", " - ", " * ") + sub() + ")"
	case 3:
		return of("max", "less") + "(" + sub() + ", " + sub() + ")"
	case 4:
		return "pick(" + sub() + ", " + sub() + ", " + sub() + ")"
	case 5, 6:
		return "(let " + of("x", "y") + " = " + sub() + " in " + sub() + ")"
	case 7:
		return "(repeat " + of("0", "1", "2", "3", "65") + " " + of("x", "y") + " = " + sub() + " with " + sub() + ")"
	case 8:
		if len(funcs) > 0 {
			return of(funcs...) + "(" + sub() + ", " + sub() + ")"
		}
	case 9, 10:
		return of("sum{}", "sum{0}", "flip{0}", "turn{0}", "reform[n]", "reform[n 1]", "join{0}", "pad{1}{0}{1}", "cut{0}{1}{1}", "spread[n]{}", "spread[n 2]{0}") + "(" + sub() + ")"
	}
	return of("dot{0}{0}", "dot{}{}", "dot{}{}{0}{0}", "join{0}", "take", "put[n]", "put[3]") + "(" + sub() + ", " + sub() + ")"
}

// program is one of some functions of two parameters, the last of which is f.
func (d dice) program() string {
	var lines, funcs []string
	for k := range 1 + d.IntN(3) {
		name := fmt.Sprintf("g%d", k)
		lines = append(lines, fmt.Sprintf("fn %s(x: [n], y: [%s]) = %s;", name, []string{"n", "", "m", "2"}[d.IntN(4)], d.body(2+d.IntN(4), funcs)))
		funcs = append(funcs, name)
	}
	s := strings.Join(lines, "\n")
	return strings.Replace(s, "fn "+funcs[len(funcs)-1]+"(", "fn f(", 1)
}

// term is a value that is a text: which operation on what.
type term struct {
	text string
	dims []int
}

// termOf is the text of an operation on terms.
func termOf(op api.Op, args []string) string {
	op = array.Plain(op)
	return fmt.Sprintf("%d %d %d%d%d%d%d(%s)", op.Kind, op.Value, op.Dims, op.At, op.Lo, op.Hi, op.Step, strings.Join(args, ","))
}

// terms are values that are terms; such as are far too long are cut.
func terms() sense.Values[term] {
	return sense.Values[term]{
		Wrong: func(v term) api.Errno { _, err := view.Size(v.dims); return err },
		Dims:  func(v term) []int { return v.dims },
		Do: func(op api.Op, args []term) (term, api.Errno) {
			var of [][]int
			var texts []string
			for _, v := range args {
				of, texts = append(of, v.dims), append(texts, v.text)
			}
			dims, err := array.Dims(op, of)
			return term{short(termOf(op, texts)), dims}, err
		},
	}
}

// short is a text, or if that is very long how long it is, its beginning and its end.
func short(s string) string {
	if len(s) > 4000 {
		return fmt.Sprintf("%d %s..%s", len(s), s[:1000], s[len(s)-1000:])
	}
	return s
}

// Programs of all sorts: Build tells what Check tells; else a tidy graph of the operations that Run makes, each on what it is made of, which is worth what Run says.
func TestG5ByItsWords(t *testing.T) {
	d := dice{rand.New(rand.NewPCG(7, 14))}
	seen, great := map[api.Errno]int{}, 0
	for range 20000 {
		s := d.program()
		p, f := text.Read(s)
		if f.Err != api.OK {
			t.Fatalf("%s can't be read: %v", s, f)
		}
		dims := [][]int{l(2), nil}
		for range p[len(p)-1].Given[1].Dims {
			dims[1] = l(2)
		}
		if d.IntN(20) == 0 {
			dims[d.IntN(2)] = [][]int{nil, l(0), l(1), l(3), l(-1), l(2, 2)}[d.IntN(6)]
		}
		_, wantErr := sense.Check(p, "f", dims)
		seen[wantErr]++
		g, err := graph.Build(p, "f", dims)
		if wantErr != api.OK {
			noGraph(t, s, wantErr)(g, err)
			continue
		}
		isGraph(t, s, g)(graph.Tidy(g))
		if err != api.OK || len(g.Outs) != 1 || graph.Params(g) != 2 || !sameGraph(giving(nil, g.Nodes[:2]...), giving(nil, par(0, dims[0]...), par(1, dims[1]...))) {
			t.Fatalf("Build of %s with %v: %s, %d comes", s, dims, show(g), err)
		}
		want, _ := sense.Worth(p, "f", []term{{"x", dims[0]}, {"y", dims[1]}}, terms())
		texts := []string{"x", "y"}
		for _, node := range g.Nodes[2:] {
			var of []string
			for _, at := range node.Args {
				of = append(of, texts[at])
			}
			texts = append(texts, short(termOf(node.Op, of)))
		}
		if texts[g.Outs[0]] != want.text {
			t.Fatalf("Build of %s with %v: %s comes, not %s", s, dims, cut(texts[g.Outs[0]]), cut(want.text))
		}
		args := d.args(g)
		value, _ := sense.Run(p, "f", args)
		wantEval(t, g, args, value)
		if t.Failed() {
			t.Fatal(s)
		}
		if len(g.Nodes) > 8 {
			great++
		}
	}
	for _, err := range []api.Errno{api.OK, api.ErrShape, api.ErrRange} {
		if seen[err] < 20 {
			t.Errorf("%d was told %d times alone: %v", err, seen[err], seen)
		}
	}
	if great < 500 {
		t.Errorf("%d graphs alone have some nodes", great)
	}
}
