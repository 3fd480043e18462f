package split

import (
	"adjoint/api"
	"adjoint/array"
	"adjoint/graph"
	"adjoint/list"
)

// layout is a part that is being made. What a step makes is known by the step's number.
type layout struct {
	api.Part
	dims [][]int // those of what a machine has of each step
	lies []int   // how what each step makes lies
}

// laidOut is the layout of a tidy graph whose parameters can lie so.
func laidOut(g api.Graph, many int, how []int) *layout {
	l := &layout{Part: api.Part{Many: many}}
	params := graph.Params(g)
	for k, node := range g.Nodes[:params] {
		op := node.Op
		op.Dims = l.share(op.Dims, how[k])
		l.lay(api.Step{Do: api.StepLocal, Op: op}, op.Dims, how[k])
	}
	stands := list.Others(params) // which steps make what the nodes are worth
	for _, node := range g.Nodes[params:] {
		stands = append(stands, l.node(node.Op, list.These(stands, node.Args)))
	}
	l.Outs = list.These(stands, g.Outs)
	l.How = list.These(l.lies, l.Outs)
	return l
}

// lay is the number of a step that is laid behind the others.
func (l *layout) lay(step api.Step, dims []int, lies int) int {
	l.Steps = append(l.Steps, step)
	l.dims = append(l.dims, dims)
	l.lies = append(l.lies, lies)
	return len(l.Steps) - 1
}

// local lays an operation on what a machine has. The operation's lists, which are those of the tidy graph, and the args are the layout's from then on.
func (l *layout) local(op api.Op, lies int, args ...int) int {
	// What a machine has fits, as all of it does in a right graph.
	dims, _ := array.Dims(op, list.These(l.dims, args))
	return l.lay(api.Step{Do: api.StepLocal, Op: op, Args: args}, dims, lies)
}

// summed lays an operation of which each machine makes a part of each sum, and the sums of all.
func (l *layout) summed(op api.Op, args ...int) int {
	// What one machine makes of it lies in no way; only the sum asks for it.
	one := l.local(op, api.Everywhere, args...)
	return l.lay(api.Step{Do: api.StepSum, Args: []int{one}}, l.dims[one], api.Everywhere)
}

// bring is a step that makes the same as another one, but lies so: that one itself, if it does.
func (l *layout) bring(at, lies int) int {
	was := l.lies[at]
	if was == lies {
		return at
	}
	step := api.Step{Do: api.StepSwap, Args: []int{at}, At: was, To: lies}
	switch {
	case lies == api.Everywhere:
		step = api.Step{Do: api.StepGather, Args: []int{at}, At: was}
	case was == api.Everywhere:
		step = api.Step{Do: api.StepOwn, Args: []int{at}, At: lies}
	}
	return l.lay(step, l.share(l.whole(at), lies), lies)
}

// whole are the dimensions of all that a step makes.
func (l *layout) whole(at int) []int {
	dims := list.Fresh(l.dims[at])
	if along := l.lies[at]; along != api.Everywhere {
		dims[along] *= l.Many
	}
	return dims
}

// share are dimensions as a machine has them of what lies so.
func (l *layout) share(dims []int, lies int) []int {
	out := list.Fresh(dims)
	if lies != api.Everywhere {
		out[lies] /= l.Many
	}
	return out
}
