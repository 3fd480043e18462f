package graph

import (
	"adjoint/api"
	"adjoint/array"
	"adjoint/known"
	"adjoint/list"
)

// maker is a graph that is being made: its operations are plain, and no two of its nodes are alike.
type maker struct {
	api.Graph
	known map[string]int // the numbers of its nodes, by what they are
}

// begun is a maker that has the parameters of a graph, and nothing else.
func begun(g api.Graph) *maker {
	m := &maker{known: map[string]int{}}
	for _, node := range g.Nodes[:Params(g)] {
		m.node(node.Op, nil)
	}
	return m
}

// node is the number of the node with this operation on these nodes: it comes behind all others, if there is none yet. The args are the maker's from then on.
func (m *maker) node(op api.Op, args []int) int {
	plain := array.Plain(op)
	what := known.Key(plain, args)
	at, ok := m.known[what]
	if !ok {
		at = len(m.Nodes)
		m.known[what] = at
		m.Nodes = append(m.Nodes, api.Node{Op: plain, Args: args})
	}
	return at
}

// taking tells how nodes of a graph come into the maker, each behind its args, which come one after the other; param tells which node stands for a parameter of the graph.
func (m *maker) taking(g api.Graph, param func(k int) int) func(at int) int {
	params := Params(g)
	stands := map[int]int{}
	var take func(at int) int
	take = func(at int) int {
		if there, ok := stands[at]; ok {
			return there
		}
		if at < params {
			stands[at] = param(at)
		} else {
			node := g.Nodes[at]
			stands[at] = m.node(node.Op, list.Each(node.Args, take))
		}
		return stands[at]
	}
	return take
}

// tidied is the tidy graph of one that is right, but may have too many nodes.
func tidied(g api.Graph) api.Graph {
	m := begun(g)
	m.Outs = list.Each(g.Outs, m.taking(g, itself))
	return m.Graph
}

// chained is the tidy graph that gives what g gives of what f gives; both are right, and fit.
func chained(f, g api.Graph) api.Graph {
	m := begun(f)
	first := m.taking(f, itself)
	m.Outs = list.Each(g.Outs, m.taking(g, func(k int) int { return first(f.Outs[k]) }))
	return m.Graph
}

// itself is how a parameter stands in a maker that was begun with it.
func itself(k int) int { return k }
