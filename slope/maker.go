package slope

import (
	"slices"

	"adjoint/api"
	"adjoint/array"
	"adjoint/graph"
	"adjoint/list"
)

// maker is a graph that is being made of another one, behind all that this does.
type maker struct {
	api.Graph
	dims   [][]int // those of each node
	values []int   // which nodes stand for those of the other graph
}

// begun is a maker with the parameters of a graph, whose nodes have these dimensions, more parameters behind them, and then all that the graph does.
func begun(g api.Graph, dims, more [][]int) *maker {
	m := &maker{}
	params := graph.Params(g)
	for _, own := range slices.Concat(dims[:params], more) {
		m.lay(api.Op{Kind: api.Param, Dims: own, At: []int{len(m.Nodes)}}, nil, own)
	}
	m.values = list.Others(params)
	for _, node := range g.Nodes[params:] {
		m.values = append(m.values, m.node(node.Op, list.These(m.values, node.Args)...))
	}
	return m
}

// lay is the number of a node that is laid behind the others.
func (m *maker) lay(op api.Op, args, dims []int) int {
	m.Nodes = append(m.Nodes, api.Node{Op: op, Args: args})
	m.dims = append(m.dims, dims)
	return len(m.Nodes) - 1
}

// node is the number of a new node: an operation on nodes that it fits.
func (m *maker) node(op api.Op, args ...int) int {
	dims, _ := array.Dims(op, list.These(m.dims, args))
	return m.lay(op, args, dims)
}

// bare is a new node of a kind without fields.
func (m *maker) bare(kind int, args ...int) int { return m.node(api.Op{Kind: kind}, args...) }

// noughts is a new node of noughts with the dimensions of another node.
func (m *maker) noughts(like int) int {
	return m.node(api.Op{Kind: api.Fill, Dims: m.dims[like]})
}
