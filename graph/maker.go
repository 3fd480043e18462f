package graph

import (
	"strconv"

	"adjoint/api"
	"adjoint/array"
)

// maker is a graph that is being made: its operations are plain, and no two of its nodes are alike.
type maker struct {
	api.Graph
	known map[string]int // the numbers of its nodes, by what they are
}

// begun is a maker that has the parameters of a graph, and nothing else.
func begun(g api.Graph) *maker {
	m := &maker{known: map[string]int{}}
	for _, node := range g.Nodes[:Params(g)] {
		m.node(node.Op, nil)
	}
	return m
}

// node is the number of the node with this operation on these nodes: it comes behind all others, if there is none yet. The args are the maker's from then on.
func (m *maker) node(op api.Op, args []int) int {
	plain := array.Plain(op)
	what := described(plain, args)
	at, ok := m.known[what]
	if !ok {
		at = len(m.Nodes)
		m.known[what] = at
		m.Nodes = append(m.Nodes, api.Node{Op: plain, Args: args})
	}
	return at
}

// described is a text that two nodes with plain operations share only if they are alike.
func described(op api.Op, args []int) string {
	text := strconv.AppendInt(nil, op.Value, 10)
	for _, list := range [...][]int{{op.Kind}, op.Dims, op.At, op.Lo, op.Hi, op.Step, args} {
		// Where a list ends must be seen: what ends one may begin the next.
		text = append(text, ';')
		for _, n := range list {
			text = strconv.AppendInt(append(text, ' '), int64(n), 10)
		}
	}
	return string(text)
}

// taking tells how nodes of a graph come into the maker, each behind its args, which come one after the other; param tells which node stands for a parameter of the graph.
func (m *maker) taking(g api.Graph, param func(k int) int) func(at int) int {
	params := Params(g)
	stands := map[int]int{}
	var take func(at int) int
	take = func(at int) int {
		if there, ok := stands[at]; ok {
			return there
		}
		if at < params {
			stands[at] = param(at)
		} else {
			node := g.Nodes[at]
			stands[at] = m.node(node.Op, each(node.Args, take))
		}
		return stands[at]
	}
	return take
}

// tidied is the tidy graph of one that is right, but may have too many nodes.
func tidied(g api.Graph) api.Graph {
	m := begun(g)
	m.Outs = each(g.Outs, m.taking(g, itself))
	return m.Graph
}

// chained is the tidy graph that gives what g gives of what f gives; both are right, and fit.
func chained(f, g api.Graph) api.Graph {
	m := begun(f)
	first := m.taking(f, itself)
	m.Outs = each(g.Outs, m.taking(g, func(k int) int { return first(f.Outs[k]) }))
	return m.Graph
}

// itself is how a parameter stands in a maker that was begun with it.
func itself(k int) int { return k }
