package slope

import (
	"slices"

	"adjoint/api"
	"adjoint/graph"
	"adjoint/list"
)

// teller makes, of what a node is told, what it tells one of its arguments.
type teller func(what int) int

// backward is the graph of what each parameter of a right graph is told, once what it gives is told something.
func backward(g api.Graph, dims [][]int) api.Graph {
	params := graph.Params(g)
	m := begun(g, dims, list.These(dims, g.Outs))
	told := map[int]int{} // which nodes are, all in all, what others are told
	tell := func(at, what int) {
		if before, ok := told[at]; ok {
			what = m.bare(api.Add, before, what)
		}
		told[at] = what
	}
	for k, at := range g.Outs {
		tell(m.values[at], params+k)
	}
	// The last one first: so each was told all when its own turn comes.
	for _, at := range slices.Backward(m.values[params:]) {
		if what, ok := told[at]; ok {
			m.passOn(at, what, tell)
		}
	}
	for k := range params {
		if _, ok := told[k]; !ok {
			told[k] = m.noughts(k)
		}
		m.Outs = append(m.Outs, told[k])
	}
	return m.Graph
}

// passOn tells the arguments of a node what comes to them of what it is told itself.
func (m *maker) passOn(at, what int, tell func(at, what int)) {
	for k, tells := range m.tellers(at) {
		if tells != nil {
			tell(m.Nodes[at].Args[k], tells(what))
		}
	}
}

// tellers are those of a node, one for each of its arguments; nil, or none at all: nothing is told.
func (m *maker) tellers(at int) []teller {
	op, args := m.Nodes[at].Op, m.Nodes[at].Args
	switch op.Kind {
	case api.Fill, api.Less:
		return nil
	case api.Add:
		return []teller{same, same}
	case api.Sub:
		return []teller{same, m.minus}
	case api.Mul:
		return []teller{m.times(args[1]), m.times(args[0])}
	case api.Max:
		yes, no := m.chosen(m.bare(api.Less, args...))
		return []teller{no, yes}
	case api.Pick:
		yes, no := m.chosen(args[0])
		return []teller{nil, yes, no}
	case api.Dot:
		return m.dotted(op, args[0], args[1])
	case api.Join:
		return m.pieces(op.At[0], args)
	}
	// All others move what their first argument has, by their fields and by the second one.
	back := moved(op, m.dims[args[0]], m.dims[at])
	return []teller{func(what int) int {
		return m.node(back, append([]int{what}, args[1:]...)...)
	}}
}

func same(what int) int { return what }

func (m *maker) minus(what int) int { return m.bare(api.Sub, m.noughts(what), what) }

// times is a teller of something that was multiplied with another node.
func (m *maker) times(other int) teller {
	return func(what int) int { return m.bare(api.Mul, what, other) }
}

// chosen are the tellers of what was taken where a node is not 0, and of what was taken elsewhere.
func (m *maker) chosen(which int) (yes, no teller) {
	yes = func(what int) int { return m.bare(api.Pick, which, what, m.noughts(what)) }
	no = func(what int) int { return m.bare(api.Pick, which, m.noughts(what), what) }
	return yes, no
}

// pieces are the tellers of nodes that stand one behind the other along a dimension.
func (m *maker) pieces(along int, args []int) []teller {
	begin := 0
	return list.Each(args, func(arg int) teller {
		rank := len(m.dims[arg])
		cut := api.Op{Kind: api.Cut, Lo: make([]int, rank), Hi: list.Fresh(m.dims[arg]), Step: slices.Repeat([]int{1}, rank)}
		cut.Lo[along] = begin
		begin += m.dims[arg][along]
		cut.Hi[along] = begin
		return func(what int) int { return m.node(cut, what) }
	})
}

// moved is the operation that brings back, of what was made with these dimensions, all that came from an argument with those: sums where something came to several places, noughts where it came to none.
func moved(op api.Op, from, made []int) api.Op {
	switch op.Kind {
	case api.Spread:
		return api.Op{Kind: api.Sum, At: list.Others(len(made), op.At)}
	case api.Sum:
		return api.Op{Kind: api.Spread, Dims: from, At: list.Others(len(from), op.At)}
	case api.Turn:
		return turnedBack(op.At)
	case api.Reform:
		return api.Op{Kind: api.Reform, Dims: from}
	case api.Cut:
		return padded(op, from, made)
	case api.Pad:
		return unpadded(op, made)
	case api.Take:
		return api.Op{Kind: api.Put, Dims: from[:1]}
	case api.Put:
		return api.Op{Kind: api.Take}
	}
	// A Flip.
	return op
}

// turnedBack is the Turn that brings the dimensions to their places, once they stand in this order.
func turnedBack(order []int) api.Op {
	back := make([]int, len(order))
	for k, from := range order {
		back[from] = k
	}
	return api.Op{Kind: api.Turn, At: back}
}

// padded is the Pad that brings a part to its place again.
func padded(cut api.Op, from, made []int) api.Op {
	behind := make([]int, len(from))
	for k, dim := range from {
		behind[k] = dim - cut.Lo[k]
		if made[k] > 0 {
			behind[k] -= (made[k]-1)*cut.Step[k] + 1
		}
	}
	return api.Op{Kind: api.Pad, Lo: cut.Lo, Hi: behind, Step: cut.Step}
}

// unpadded is the Cut that takes the noughts of a Pad away.
func unpadded(pad api.Op, made []int) api.Op {
	end := make([]int, len(made))
	for k, dim := range made {
		end[k] = dim - pad.Hi[k]
	}
	return api.Op{Kind: api.Cut, Lo: pad.Lo, Hi: end, Step: pad.Step}
}
