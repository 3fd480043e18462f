package nest

import (
	"slices"

	"adjoint/api"
	"adjoint/graph"
	"adjoint/list"
	"adjoint/sight"
	"adjoint/view"
)

// lowering is what comes of a graph, while it is made.
type lowering struct {
	api.Lowered
	wholes []sighted // the array of each node, as it lies
}

// sighted is an array of a nest, looked at by a view: its steps and its start are a row over the numbers of an index.
type sighted struct {
	api.View
	array int
}

// lowered is what comes of a tidy graph without Take and Put. Whether anything is wrong with the nest is not asked yet.
func lowered(g api.Graph) api.Lowered {
	l := &lowering{}
	// A tidy graph is nobody else's, so its list can be handed on.
	l.Ins, l.Outs = list.Others(graph.Params(g)), g.Outs
	dims, _ := graph.Dims(g)
	for at, own := range dims {
		size, _ := view.Size(own)
		whole, _ := view.Whole(own)
		l.Nest.Sizes = append(l.Nest.Sizes, size)
		l.wholes = append(l.wholes, sighted{whole, at})
	}
	for at, node := range g.Nodes {
		l.node(at, node.Op, node.Args)
	}
	return l.Lowered
}

// node lays the statements of a node.
func (l *lowering) node(at int, op api.Op, args []int) {
	switch op.Kind {
	case api.Param:
	case api.Fill:
		l.flat(at, api.DoSet, op.Value)
	case api.Sum, api.Pad:
		l.flat(at, api.DoSet, 0)
		l.land(at, op, args[0])
	case api.Dot:
		l.flat(at, api.DoSet, 0)
		l.dot(at, op, l.wholes[args[0]], l.wholes[args[1]])
	case api.Join:
		l.join(at, op.At[0], args)
	case api.Spread, api.Turn, api.Cut, api.Flip:
		from := l.wholes[args[0]]
		// Of a right graph nothing is wrong with a node.
		from.View, _ = sight.Read(op, from.Dims)
		l.lay(api.DoCopy, 0, l.wholes[at], from)
	default:
		l.flat(at, deed(op.Kind), 0, args...)
	}
}

// deed is what a statement does that is, number by number, what an operation is.
func deed(kind int) int {
	switch kind {
	case api.Add:
		return api.DoAdd
	case api.Sub:
		return api.DoSub
	case api.Mul:
		return api.DoMul
	case api.Max:
		return api.DoMax
	case api.Less:
		return api.DoLess
	case api.Pick:
		return api.DoPick
	}
	return api.DoCopy
}

// flat lays a statement over all numbers of a node's array, and of those of its arguments, which have as many.
func (l *lowering) flat(at, do int, value int64, args ...int) {
	size := l.Nest.Sizes[at]
	along := func(array int) sighted {
		return sighted{api.View{Dims: []int{size}, Steps: []int{1}}, array}
	}
	l.lay(do, value, along(at), list.Each(args, along)...)
}

// land lays a statement by which the numbers of a Sum's or a Pad's argument go where they must.
func (l *lowering) land(at int, op api.Op, arg int) {
	to, from := l.wholes[at], l.wholes[arg]
	do := api.DoCopy
	if op.Kind == api.Sum {
		do = api.DoMore
	}
	to.View = sight.Landing(op, from.Dims, to.Dims)
	l.lay(do, 0, to, from)
}

// dot lays the sums of a Dot's products. It may have so many dimensions that views know of none such: that is found wrong with the nest.
func (l *lowering) dot(at int, op api.Op, a, b sighted) {
	to := l.wholes[at]
	freeA, freeB := list.Others(len(a.Dims), op.Lo, op.At), list.Others(len(b.Dims), op.Hi, op.Step)
	none := func(of []int) []int { return make([]int, len(of)) }
	to.Dims = slices.Concat(to.Dims, list.These(a.Dims, op.At))
	to.Steps = slices.Concat(to.Steps, none(op.At))
	a.Steps = slices.Concat(list.These(a.Steps, op.Lo), list.These(a.Steps, freeA), none(freeB), list.These(a.Steps, op.At))
	b.Steps = slices.Concat(list.These(b.Steps, op.Hi), none(freeA), list.These(b.Steps, freeB), list.These(b.Steps, op.Step))
	l.lay(api.DoMac, 0, to, a, b)
}

// join lays a statement for each array that a Join puts behind others along a dimension.
func (l *lowering) join(at, dim int, args []int) {
	ahead := 0
	for _, arg := range args {
		to, from := l.wholes[at], l.wholes[arg]
		to.Start, to.Dims = to.Steps[dim]*ahead, from.Dims
		l.lay(api.DoCopy, 0, to, from)
		ahead += from.Dims[dim]
	}
}

// lay lays a statement, over all indices of the array into which it puts, as that is looked at.
func (l *lowering) lay(do int, value int64, to sighted, from ...sighted) {
	// One too many is enough to be told; a Join may have thousands of thousands of arguments.
	if len(l.Nest.Stmts) > api.MaxStmts {
		return
	}
	l.Nest.Stmts = append(l.Nest.Stmts, api.Stmt{
		Over: api.Points{Box: list.Fresh(to.Dims)}, Do: do, Value: value,
		Put: to.access(), Get: list.Each(from, sighted.access),
	})
}

// access is the way to a number of an array, by its index.
func (s sighted) access() api.Access {
	return api.Access{Array: s.array, At: api.Row{Coef: list.Fresh(s.Steps), Const: s.Start}}
}
