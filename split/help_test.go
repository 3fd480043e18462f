package split_test

import (
	"fmt"
	"math"
	"slices"
	"strings"
	"testing"

	"adjoint/api"
	"adjoint/graph"
	"adjoint/split"
)

const (
	crowd = 16 // as many machines as there may be
	every = -1 // lies everywhere
	most  = math.MaxInt
	least = math.MinInt
)

// l is a list.
func l(numbers ...int) []int { return numbers }

// of is an array.
func of(dims []int, data ...int64) api.Array { return api.Array{Dims: dims, Data: data} }

// arrays are arrays.
func arrays(all ...api.Array) []api.Array { return all }

// size is how many entries there are.
func size(dims []int) int {
	many := 1
	for _, dim := range dims {
		many *= dim
	}
	return many
}

// upTo is an array of these dimensions with the numbers 1, 2, ..
func upTo(dims ...int) api.Array {
	a := of(dims)
	for i := range size(dims) {
		a.Data = append(a.Data, int64(i)+1)
	}
	return a
}

// par is a parameter.
func par(k int, dims ...int) api.Node {
	return api.Node{Op: api.Op{Kind: api.Param, Dims: dims, At: l(k)}}
}

// on is an operation on nodes.
func on(op api.Op, args ...int) api.Node { return api.Node{Op: op, Args: args} }

// giving is a graph.
func giving(outs []int, nodes ...api.Node) api.Graph { return api.Graph{Nodes: nodes, Outs: outs} }

// last is a graph that gives its last node.
func last(nodes ...api.Node) api.Graph { return giving(l(len(nodes)-1), nodes...) }

// bare, fill, sum, flip, turn, join, reform, put, spread, cut, pad and dot are operations.
func bare(kind int) api.Op             { return api.Op{Kind: kind} }
func fill(n int64, dims ...int) api.Op { return api.Op{Kind: api.Fill, Value: n, Dims: dims} }
func sum(at ...int) api.Op             { return api.Op{Kind: api.Sum, At: at} }
func flip(at ...int) api.Op            { return api.Op{Kind: api.Flip, At: at} }
func turn(at ...int) api.Op            { return api.Op{Kind: api.Turn, At: at} }
func join(at int) api.Op               { return api.Op{Kind: api.Join, At: l(at)} }
func reform(dims ...int) api.Op        { return api.Op{Kind: api.Reform, Dims: dims} }
func put(rows int) api.Op              { return api.Op{Kind: api.Put, Dims: l(rows)} }
func spread(dims, at []int) api.Op     { return api.Op{Kind: api.Spread, Dims: dims, At: at} }
func cut(lo, hi, step []int) api.Op    { return api.Op{Kind: api.Cut, Lo: lo, Hi: hi, Step: step} }
func pad(lo, hi, step []int) api.Op    { return api.Op{Kind: api.Pad, Lo: lo, Hi: hi, Step: step} }
func dot(at, step, lo, hi []int) api.Op {
	return api.Op{Kind: api.Dot, At: at, Step: step, Lo: lo, Hi: hi}
}
func param(k int, dims ...int) api.Step     { return local(par(k, dims...).Op) }
func local(op api.Op, args ...int) api.Step { return api.Step{Do: api.StepLocal, Op: op, Args: args} }
func total(arg int) api.Step                { return api.Step{Do: api.StepSum, Args: l(arg)} }
func gather(at, arg int) api.Step           { return api.Step{Do: api.StepGather, Args: l(arg), At: at} }
func own(at, arg int) api.Step              { return api.Step{Do: api.StepOwn, Args: l(arg), At: at} }
func swap(at, to, arg int) api.Step         { return api.Step{Do: api.StepSwap, Args: l(arg), At: at, To: to} }
func steps(all ...api.Step) []api.Step      { return all }
func part(many int, all []api.Step, outs, how []int) api.Part {
	return api.Part{Many: many, Steps: all, Outs: outs, How: how}
}

// short is the beginning of what may be very long.
func short(s string) string {
	if len(s) > 2000 {
		return fmt.Sprintf("%.2000s.. (%d bytes)", s, len(s))
	}
	return s
}

// showOp tells an operation, each list with its numbers alone: nil and empty are told alike.
func showOp(op api.Op) string {
	return fmt.Sprintf("%d %d dims%d at%d lo%d hi%d step%d", op.Kind, op.Value, op.Dims, op.At, op.Lo, op.Hi, op.Step)
}

// show tells a graph.
func show(g api.Graph) string {
	var lines []string
	for _, node := range g.Nodes {
		lines = append(lines, showOp(node.Op)+fmt.Sprintf(" of%d", node.Args))
	}
	return short(strings.Join(lines, "; ") + fmt.Sprintf("; gives%d", g.Outs))
}

// showPart tells a part, all of it.
func showPart(p api.Part) string {
	lines := []string{fmt.Sprintf("%d machines", p.Many)}
	for _, s := range p.Steps {
		lines = append(lines, fmt.Sprintf("%d %s of%d at %d to %d", s.Do, showOp(s.Op), s.Args, s.At, s.To))
	}
	return strings.Join(lines, "\n") + fmt.Sprintf("\ngives%d lying%d", p.Outs, p.How)
}

// sameArrays tells whether two lists of arrays are alike (nil and empty are the same).
func sameArrays(a, b []api.Array) bool {
	return slices.EqualFunc(a, b, func(a, b api.Array) bool {
		return slices.Equal(a.Dims, b.Dims) && slices.Equal(a.Data, b.Data)
	})
}

// sameRuns tells whether all machines have the same of all steps.
func sameRuns(a, b [][]api.Array) bool { return slices.EqualFunc(a, b, sameArrays) }

// wantSplit: this is what each machine does.
func wantSplit(t *testing.T, g api.Graph, how []int, want api.Part) {
	t.Helper()
	got, err := split.Split(g, want.Many, how)
	if err != api.OK || showPart(got) != showPart(want) {
		t.Errorf("Split of %s lying %v: %d and\n%s\ncomes, not\n%s", show(g), how, err, short(showPart(got)), short(showPart(want)))
	}
}

// wantRun: this is what each machine has of each step.
func wantRun(t *testing.T, g api.Graph, many int, how []int, args []api.Array, want [][]api.Array) {
	t.Helper()
	got, err := split.Run(g, many, how, args)
	if err != api.OK || !sameRuns(got, want) {
		t.Errorf("Run of %s on %d machines, lying %v, with %s: %d and %s comes, not %s", show(g), many, how, short(fmt.Sprint(args)), err, short(fmt.Sprint(got)), short(fmt.Sprint(want)))
	}
}

// wantWords: so many words are sent.
func wantWords(t *testing.T, g api.Graph, many int, how []int, want int) {
	t.Helper()
	if got, err := split.Words(g, many, how); err != api.OK || got != want {
		t.Errorf("Words of %s on %d machines, lying %v: %d and %d comes, not %d", show(g), many, how, err, got, want)
	}
}

// wantSteps: laid out so, a graph has these steps behind those of its parameters, and gives the last one of them, which lies so; and all that the three calls tell of it is what the words of the chapter say.
func wantSteps(t *testing.T, g api.Graph, many int, how []int, lies int, behind ...api.Step) {
	t.Helper()
	var all []api.Step
	for k, node := range g.Nodes[:graph.Params(g)] {
		all = append(all, param(k, shareByHand(node.Op.Dims, how[k], many)...))
	}
	all = append(all, behind...)
	wantSplit(t, g, how, part(many, all, l(len(all)-1), l(lies)))
	wantByHand(t, thrown(1), g, many, how)
}

// wantErr: all three calls tell this error, and nothing else, whatever the arguments of Run are.
func wantErr(t *testing.T, g api.Graph, many int, how []int, want api.Errno) {
	t.Helper()
	wantNoRun(t, g, many, how, nil, want)
	wantNoRun(t, g, many, how, arrays(of(l(-1))), want)
	if got, err := split.Split(g, many, how); err != want || got.Many != 0 || len(got.Steps)+len(got.Outs)+len(got.How) > 0 {
		t.Errorf("Split of %s on %d machines, lying %v: %d and %v comes, not %d", show(g), many, how, err, got, want)
	}
	if got, err := split.Words(g, many, how); err != want || got != 0 {
		t.Errorf("Words of %s on %d machines, lying %v: %d and %d comes, not %d", show(g), many, how, err, got, want)
	}
}

// wantNoRun: Run tells this error, and nothing else.
func wantNoRun(t *testing.T, g api.Graph, many int, how []int, args []api.Array, want api.Errno) {
	t.Helper()
	if got, err := split.Run(g, many, how, args); err != want || len(got) > 0 {
		t.Errorf("Run of %s on %d machines, lying %v, with %v: %d and %v comes, not %d", show(g), many, how, args, err, got, want)
	}
}
