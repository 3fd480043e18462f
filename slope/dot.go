package slope

import (
	"slices"

	"adjoint/api"
	"adjoint/list"
)

// side is how a Dot looks at one of its arguments.
type side struct {
	of       int   // the argument
	together []int // its dimensions that go together with those of the other one
	summed   []int // those that are summed
	free     []int // those that are named nowhere
	at       []int // where these stand in what is made
}

// dotted are the tellers of the two arguments of a Dot.
func (m *maker) dotted(op api.Op, a, b int) []teller {
	left := side{of: a, together: op.Lo, summed: op.At, free: list.Others(len(m.dims[a]), op.Lo, op.At)}
	right := side{of: b, together: op.Hi, summed: op.Step, free: list.Others(len(m.dims[b]), op.Hi, op.Step)}
	all := list.Others(len(op.Lo) + len(left.free) + len(right.free))
	left.at, right.at = all[len(op.Lo):][:len(left.free)], all[len(op.Lo)+len(left.free):]
	return []teller{m.multiplied(left, right), m.multiplied(right, left)}
}

// multiplied is the teller of one side of a Dot: what is told is multiplied with the other side, and summed along all that is that side's own. What comes of it has the dimensions in another order.
func (m *maker) multiplied(own, other side) teller {
	dot := api.Op{Kind: api.Dot, At: other.at, Step: other.free, Lo: list.Others(len(other.together)), Hi: other.together}
	order := slices.Concat(own.together, own.free, partners(own.summed, other.summed))
	return func(what int) int {
		made := m.node(dot, what, other.of)
		if slices.IsSorted(order) {
			return made
		}
		return m.node(turnedBack(order), made)
	}
}

// partners are numbers in the order in which those stand that they are in pairs with.
func partners(own, others []int) []int {
	return list.Each(slices.Sorted(slices.Values(others)), func(k int) int {
		return own[slices.Index(others, k)]
	})
}
