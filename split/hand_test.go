package split_test

import (
	"slices"
	"testing"

	"adjoint/api"
	"adjoint/array"
	"adjoint/graph"
)

// shareByHand are the dimensions of what a machine has.
func shareByHand(dims []int, lies, many int) []int {
	out := slices.Clone(dims)
	if lies != every {
		out[lies] = dims[lies] / many
	}
	return out
}

// partByHand is what a machine has of an array that lies so, by the words of X1: entry by entry.
func partByHand(a api.Array, lies, many, m int) api.Array {
	out := api.Array{Dims: shareByHand(a.Dims, lies, many)}
	for i, n := range a.Data {
		if lies != every {
			number := i / size(a.Dims[lies+1:]) % a.Dims[lies]
			long := a.Dims[lies] / many
			if number < m*long || number >= m*long+long {
				continue
			}
		}
		out.Data = append(out.Data, n)
	}
	return out
}

// made is what a step makes, by hand.
type made struct {
	node  int  // what this node of the tidy graph is worth
	lies  int  // and so it lies
	whole bool // false: it is a part of each sum, on each machine
}

// byHand is a graph that is laid out by the words of X3.
type byHand struct {
	api.Part
	tidy  api.Graph
	dims  [][]int        // of the tidy graph's nodes
	made  []made         // by the steps
	at    []int          // the steps that the node in question is of
	node  int            // that node
	taken map[string]int // which rows of the table were taken, and how often
}

// layByHand lays a right graph out by the words of X3.
func layByHand(t *testing.T, g api.Graph, many int, how []int) *byHand {
	t.Helper()
	tidy, err := graph.Tidy(g)
	if err != api.OK {
		t.Fatalf("%s is wrong: %d", show(g), err)
	}
	b := &byHand{tidy: tidy, taken: map[string]int{}}
	b.Many = many
	b.dims, _ = graph.Dims(tidy)
	steps := map[int]int{}
	for k, node := range tidy.Nodes {
		b.node, b.at = k, nil
		for _, arg := range node.Args {
			b.at = append(b.at, steps[arg])
		}
		if node.Op.Kind == api.Param {
			b.lay(param(k, shareByHand(node.Op.Dims, how[k], many)...), made{k, how[k], true})
		} else {
			b.lays(node.Op)
		}
		steps[k] = len(b.Steps) - 1
	}
	for _, at := range tidy.Outs {
		b.Outs, b.How = append(b.Outs, steps[at]), append(b.How, b.made[steps[at]].lies)
	}
	return b
}

// lay lays a step.
func (b *byHand) lay(s api.Step, what made) {
	b.Steps, b.made = append(b.Steps, s), append(b.made, what)
}

// h is along what an argument is cut.
func (b *byHand) h(arg int) int { return b.made[b.at[arg]].lies }

// bring brings an argument to lie so.
func (b *byHand) bring(arg, lies int) {
	was, what := b.h(arg), b.made[b.at[arg]]
	what.lies = lies
	switch {
	case was == lies:
		return
	case lies == every:
		b.lay(gather(was, b.at[arg]), what)
	case was == every:
		b.lay(own(lies, b.at[arg]), what)
	default:
		b.lay(swap(was, lies, b.at[arg]), what)
	}
	b.at[arg] = len(b.Steps) - 1
}

// local lays the operation on the arguments as they lie now; what comes of it lies so.
func (b *byHand) local(row string, op api.Op, lies int) {
	b.taken[row]++
	b.lay(local(op, b.at...), made{b.node, lies, true})
}

// localSum lays it, and the sum over all machines.
func (b *byHand) localSum(row string, op api.Op) {
	b.local(row, op, every)
	b.made[len(b.made)-1].whole = false
	b.lay(total(len(b.Steps)-1), made{b.node, every, true})
}

// lays lays the node in question, which is no parameter.
func (b *byHand) lays(op api.Op) {
	switch op.Kind {
	case api.Fill:
		b.local("fill", op, every)
	case api.Add, api.Sub, api.Mul, api.Max, api.Less, api.Pick:
		b.alike("alike", op)
	case api.Join:
		for k := range b.at {
			if b.h(k) == op.At[0] {
				b.taken["join, cut along at"]++
				b.bring(k, every)
			}
		}
		b.alike("join", op)
	case api.Dot:
		b.dot(op)
	case api.Take:
		b.take(op)
	case api.Put:
		b.put(op)
	default:
		b.one(op)
	}
}

// alike lays what wants all of its arguments to lie in one way.
func (b *byHand) alike(row string, op api.Op) {
	lies := every
	for k := len(b.at) - 1; k >= 0; k-- {
		if b.h(k) != every {
			lies = b.h(k)
		}
	}
	for k := range b.at {
		b.bring(k, lies)
	}
	if lies == every {
		row += ", everywhere"
	}
	b.local(row, op, lies)
}

// one lays what has one argument.
func (b *byHand) one(op api.Op) {
	h := b.h(0)
	name := map[int]string{api.Spread: "spread", api.Sum: "sum", api.Turn: "turn", api.Flip: "flip", api.Cut: "cut", api.Pad: "pad", api.Reform: "reform"}[op.Kind]
	if h == every {
		b.local(name+", everywhere", op, every)
		return
	}
	whole := b.dims[b.made[b.at[0]].node]
	op = array.Plain(op)
	switch {
	case op.Kind == api.Spread:
		op.Dims[op.At[h]] /= b.Many
		b.local(name, op, op.At[h])
	case op.Kind == api.Sum && slices.Contains(op.At, h):
		b.localSum(name+", summed", op)
	case op.Kind == api.Sum:
		lies := h
		for _, k := range op.At {
			if k < h {
				lies--
			}
		}
		b.local(name, op, lies)
	case op.Kind == api.Turn:
		for k, from := range op.At {
			if from == h {
				b.local(name, op, k)
			}
		}
	case op.Kind == api.Flip && !slices.Contains(op.At, h):
		b.local(name, op, h)
	case op.Kind == api.Cut && op.Lo[h] == 0 && op.Hi[h] == whole[h] && op.Step[h] == 1:
		op.Hi[h] /= b.Many
		b.local(name, op, h)
	case op.Kind == api.Pad && op.Lo[h] == 0 && op.Hi[h] == 0 && op.Step[h] == 1:
		b.local(name, op, h)
	default:
		b.bring(0, every)
		b.local(name+", any other way", op, every)
	}
}

// free are the dimensions, of so many, that no list names.
func free(rank int, lists ...[]int) []int {
	var out []int
	for k := range rank {
		if !slices.Contains(slices.Concat(lists...), k) {
			out = append(out, k)
		}
	}
	return out
}

// rank is how many dimensions an argument has.
func (b *byHand) rank(arg int) int { return len(b.dims[b.made[b.at[arg]].node]) }

// dot lays a Dot: the first row that fits.
func (b *byHand) dot(op api.Op) {
	ha, hb := b.h(0), b.h(1)
	// What comes of it has these dimensions, each one that of the first argument (0) or the second (1).
	var becomes [][2]int
	for _, k := range op.Lo {
		becomes = append(becomes, [2]int{0, k})
	}
	for _, k := range free(b.rank(0), op.At, op.Lo) {
		becomes = append(becomes, [2]int{0, k})
	}
	for _, k := range free(b.rank(1), op.Step, op.Hi) {
		becomes = append(becomes, [2]int{1, k})
	}
	in := slices.Contains[[]int, int]
	switch where := slices.Index[[]int, int]; {
	case in(op.At, ha):
		b.bring(1, op.Step[where(op.At, ha)])
		b.localSum("dot 1", op)
	case in(op.Step, hb):
		b.bring(0, op.At[where(op.Step, hb)])
		b.localSum("dot 2", op)
	case in(op.Lo, ha):
		b.bring(1, op.Hi[where(op.Lo, ha)])
		b.local("dot 3", op, slices.Index(becomes, [2]int{0, ha}))
	case in(op.Hi, hb):
		b.bring(0, op.Lo[where(op.Hi, hb)])
		b.local("dot 4", op, slices.Index(becomes, [2]int{0, op.Lo[where(op.Hi, hb)]}))
	case ha != every:
		b.bring(1, every)
		b.local("dot 5", op, slices.Index(becomes, [2]int{0, ha}))
	case hb != every:
		b.local("dot 6", op, slices.Index(becomes, [2]int{1, hb}))
	default:
		b.local("dot 7", op, every)
	}
}

// take lays a Take.
func (b *byHand) take(op api.Op) {
	if b.h(0) == 0 {
		b.taken["take, cut along 0"]++
		b.bring(0, every)
	}
	switch ha, hb := b.h(0), b.h(1); {
	case ha != every:
		b.bring(1, every)
		b.local("take, a cut", op, b.rank(1)+ha-1)
	case hb != every:
		b.local("take, b cut", op, hb)
	default:
		b.local("take, everywhere", op, every)
	}
}

// put lays a Put.
func (b *byHand) put(op api.Op) {
	switch h := b.h(0); {
	case h == every:
		b.bring(1, every)
		b.local("put, everywhere", op, every)
	case h < b.rank(1):
		b.bring(1, h)
		b.localSum("put, summed", op)
	default:
		b.bring(1, every)
		b.local("put", op, h-b.rank(1)+1)
	}
}

// rows are all of the table.
func rows() []string {
	return []string{
		"fill", "alike", "alike, everywhere", "join", "join, everywhere", "join, cut along at",
		"spread", "spread, everywhere", "sum", "sum, summed", "sum, everywhere", "turn", "turn, everywhere",
		"flip", "flip, everywhere", "flip, any other way", "cut", "cut, everywhere", "cut, any other way",
		"pad", "pad, everywhere", "pad, any other way", "reform, everywhere", "reform, any other way",
		"dot 1", "dot 2", "dot 3", "dot 4", "dot 5", "dot 6", "dot 7",
		"take, cut along 0", "take, a cut", "take, b cut", "take, everywhere",
		"put, everywhere", "put, summed", "put",
	}
}

// words is how many words are sent, by the words of X5.
func (b *byHand) words() int {
	all := 0
	for k, s := range b.Steps {
		entries := size(b.dims[b.made[k].node])
		switch s.Do {
		case api.StepSum:
			all += 2 * (b.Many - 1) * entries
		case api.StepGather:
			all += (b.Many - 1) * entries
		case api.StepSwap:
			all += (b.Many - 1) * (entries / b.Many)
		}
	}
	return all
}

// run is what each machine has of each step: parts of what the graph's nodes are worth as a whole. Ahead of a sum it is what the operation makes of the parts, which are so added.
func (b *byHand) run(t *testing.T, args []api.Array) [][]api.Array {
	t.Helper()
	worth := slices.Clone(args)
	for _, node := range b.tidy.Nodes[len(args):] {
		worth = append(worth, do(t, node.Op, worth, node.Args))
	}
	var out [][]api.Array
	for k, what := range b.made {
		var has []api.Array
		for m := range b.Many {
			if what.whole {
				has = append(has, partByHand(worth[what.node], what.lies, b.Many, m))
				continue
			}
			var parts []api.Array
			for _, at := range b.Steps[k].Args {
				parts = append(parts, out[at][m])
			}
			has = append(has, do(t, b.Steps[k].Op, parts, free(len(parts))))
		}
		out = append(out, has)
	}
	return out
}

// do is what an operation makes of some of these arrays.
func do(t *testing.T, op api.Op, all []api.Array, args []int) api.Array {
	t.Helper()
	var of []api.Array
	for _, at := range args {
		of = append(of, all[at])
	}
	a, err := array.Do(op, of)
	if err != api.OK {
		t.Fatalf("%s of %v: %d", showOp(op), of, err)
	}
	return a
}

// wantByHand: all three calls tell what the words of the chapter say of a right graph that can be laid out so; it tells which rows of the table were taken.
func wantByHand(t *testing.T, d dice, g api.Graph, many int, how []int) *byHand {
	t.Helper()
	b := layByHand(t, g, many, how)
	wantSplit(t, g, how, b.Part)
	wantWords(t, g, many, how, b.words())
	args := d.arrays(paramDims(g))
	wantRun(t, g, many, how, args, b.run(t, args))
	return b
}

// paramDims are the dimensions of a graph's parameters.
func paramDims(g api.Graph) [][]int {
	var all [][]int
	for _, node := range g.Nodes[:graph.Params(g)] {
		all = append(all, node.Op.Dims)
	}
	return all
}
