// Package lower: by which statements operations are worked out (N4).
package lower

import (
	"iter"
	"slices"

	"adjoint/api"
	"adjoint/list"
	"adjoint/sight"
	"adjoint/view"
)

// Can tells whether statements can work a graph out: whether there is neither a Take nor a Put in it. Where their rows lie hangs on numbers that are in arrays: no row over a point's numbers tells it.
func Can(g api.Graph) bool {
	return !slices.ContainsFunc(g.Nodes, func(n api.Node) bool { return n.Op.Kind == api.Take || n.Op.Kind == api.Put })
}

// Stmts tells the statements of node at of a tidy graph that can be worked out so, the nodes of which have these dimensions. Array k is what node k is worth. They are told one by one, as a Join may have thousands of thousands of arguments.
func Stmts(g api.Graph, dims [][]int, at int) iter.Seq[api.Stmt] {
	return func(yield func(api.Stmt) bool) {
		l := lowering{node: g.Nodes[at], dims: dims, at: at, yield: yield}
		l.tell()
	}
}

// lowering is a node whose statements are told. Whatever tells some of them answers whether more are asked for.
type lowering struct {
	node  api.Node
	dims  [][]int // of all nodes
	at    int
	yield func(api.Stmt) bool
}

// sighted is an array, looked at by a view: its steps and its start are a row over the numbers of an index.
type sighted struct {
	api.View
	array int
}

// tell tells the statements of the node.
func (l *lowering) tell() {
	op, args := l.node.Op, l.node.Args
	switch op.Kind {
	case api.Param:
	case api.Fill:
		l.flat(api.DoSet, op.Value)
	case api.Sum, api.Pad:
		if l.flat(api.DoSet, 0) {
			l.land(op, l.whole(args[0]))
		}
	case api.Dot:
		if l.flat(api.DoSet, 0) {
			l.dot(op, l.whole(args[0]), l.whole(args[1]))
		}
	case api.Join:
		l.join(op.At[0], args)
	case api.Spread, api.Turn, api.Cut, api.Flip:
		from := l.whole(args[0])
		// Of a right graph nothing is wrong with a node.
		from.View, _ = sight.Read(op, from.Dims)
		l.lay(api.DoCopy, 0, l.whole(l.at), from)
	default:
		l.flat(deed(op.Kind), 0, args...)
	}
}

// deed is what a statement does that is, number by number, what an operation is.
func deed(kind int) int {
	switch kind {
	case api.Add:
		return api.DoAdd
	case api.Sub:
		return api.DoSub
	case api.Mul:
		return api.DoMul
	case api.Max:
		return api.DoMax
	case api.Less:
		return api.DoLess
	case api.Pick:
		return api.DoPick
	}
	return api.DoCopy
}

// whole is the array of a node, as it lies.
func (l *lowering) whole(k int) sighted {
	v, _ := view.Whole(l.dims[k])
	return sighted{v, k}
}

// flat tells a statement over all numbers of the node's array, and of those of its arguments, which have as many.
func (l *lowering) flat(do int, value int64, args ...int) bool {
	size, _ := view.Size(l.dims[l.at])
	along := func(array int) sighted {
		return sighted{api.View{Dims: []int{size}, Steps: []int{1}}, array}
	}
	return l.lay(do, value, along(l.at), list.Each(args, along)...)
}

// land tells a statement by which the numbers of a Sum's or a Pad's argument go where they must.
func (l *lowering) land(op api.Op, from sighted) {
	to := l.whole(l.at)
	do := api.DoCopy
	if op.Kind == api.Sum {
		do = api.DoMore
	}
	to.View = sight.Landing(op, from.Dims, to.Dims)
	l.lay(do, 0, to, from)
}

// dot tells the sums of a Dot's products. It may have so many dimensions that views know of none such.
func (l *lowering) dot(op api.Op, a, b sighted) {
	to := l.whole(l.at)
	freeA, freeB := list.Others(len(a.Dims), op.Lo, op.At), list.Others(len(b.Dims), op.Hi, op.Step)
	none := func(of []int) []int { return make([]int, len(of)) }
	to.Dims = slices.Concat(to.Dims, list.These(a.Dims, op.At))
	to.Steps = slices.Concat(to.Steps, none(op.At))
	a.Steps = slices.Concat(list.These(a.Steps, op.Lo), list.These(a.Steps, freeA), none(freeB), list.These(a.Steps, op.At))
	b.Steps = slices.Concat(list.These(b.Steps, op.Hi), none(freeA), list.These(b.Steps, freeB), list.These(b.Steps, op.Step))
	l.lay(api.DoMac, 0, to, a, b)
}

// join tells a statement for each array that a Join puts behind others along a dimension.
func (l *lowering) join(dim int, args []int) {
	ahead := 0
	for _, arg := range args {
		to, from := l.whole(l.at), l.whole(arg)
		to.Start, to.Dims = to.Steps[dim]*ahead, from.Dims
		if !l.lay(api.DoCopy, 0, to, from) {
			return
		}
		ahead += from.Dims[dim]
	}
}

// lay tells a statement, over all indices of the array into which it puts, as that is looked at.
func (l *lowering) lay(do int, value int64, to sighted, from ...sighted) bool {
	return l.yield(api.Stmt{
		Over: api.Points{Box: list.Fresh(to.Dims)}, Do: do, Value: value,
		Put: to.access(), Get: list.Each(from, sighted.access),
	})
}

// access is the way to a number of an array, by its index.
func (s sighted) access() api.Access {
	return api.Access{Array: s.array, At: api.Row{Coef: list.Fresh(s.Steps), Const: s.Start}}
}
