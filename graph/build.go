package graph

import (
	"adjoint/api"
	"adjoint/array"
	"adjoint/list"
	"adjoint/sense"
	"adjoint/view"
)

// Build is the graph of a function.
func Build(p []api.Func, name string, dims [][]int) (api.Graph, api.Errno) {
	var w writer
	args := make([]spot, len(dims))
	for k := range dims {
		args[k] = w.write(api.Op{Kind: api.Param, Dims: dims[k], At: []int{k}}, nil, dims[k])
	}
	// It goes as Check does, so it tells the same errors.
	out, err := sense.Worth(p, name, args, sense.Values[spot]{Wrong: wrongDims, Dims: dimsOf, Do: w.do})
	if err != api.OK {
		return api.Graph{}, err
	}
	w.Outs = []int{out.at}
	return bounded(tidied(w.Graph))
}

// spot is a node that stands for a value of a program: its number, and its dimensions.
type spot struct {
	at   int
	dims []int
}

func numberOf(s spot) int { return s.at }

func dimsOf(s spot) []int { return s.dims }

func wrongDims(s spot) api.Errno {
	_, err := view.Size(s.dims)
	return err
}

// writer is a graph of all that a program does, one behind the other.
type writer struct{ api.Graph }

// do writes an operation down, if its arguments fit.
func (w *writer) do(op api.Op, args []spot) (spot, api.Errno) {
	made, err := array.Dims(op, list.Each(args, dimsOf))
	if err != api.OK {
		return spot{}, err
	}
	return w.write(op, list.Each(args, numberOf), made), api.OK
}

// write lays a node behind the others. The operation's lists are not the writer's, so it has them in memory of its own.
func (w *writer) write(op api.Op, args, dims []int) spot {
	w.Nodes = append(w.Nodes, api.Node{Op: array.Plain(op), Args: args})
	return spot{at: len(w.Nodes) - 1, dims: dims}
}
