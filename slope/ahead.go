package slope

import (
	"slices"

	"adjoint/api"
	"adjoint/graph"
	"adjoint/list"
)

// ahead is the graph of what a right graph gives, and of the slopes of that.
func ahead(g api.Graph, dims [][]int) api.Graph {
	params := graph.Params(g)
	m := begun(g, dims, dims[:params])
	slopes := make([]int, len(g.Nodes))
	for i, node := range g.Nodes {
		if i < params {
			slopes[i] = params + i
			continue
		}
		slopes[i] = m.slope(m.values[i], list.These(slopes, node.Args))
	}
	m.Outs = slices.Concat(list.These(m.values, g.Outs), list.These(slopes, g.Outs))
	return m.Graph
}

// slope is the slope of a node, those of its arguments being these.
func (m *maker) slope(at int, of []int) int {
	op, args := m.Nodes[at].Op, m.Nodes[at].Args
	switch op.Kind {
	case api.Fill, api.Less:
		return m.noughts(at)
	case api.Mul, api.Dot:
		return m.bare(api.Add, m.node(op, of[0], args[1]), m.node(op, args[0], of[1]))
	case api.Max:
		return m.bare(api.Pick, m.bare(api.Less, args...), of[1], of[0])
	case api.Pick:
		return m.node(op, args[0], of[1], of[2])
	case api.Take, api.Put:
		return m.node(op, of[0], args[1])
	}
	return m.node(op, of...)
}
