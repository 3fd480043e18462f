package alike

import (
	"adjoint/api"
	"adjoint/array"
	"adjoint/graph"
	"adjoint/list"
)

// tree is a form, on trees, and what it weighs with them.
type tree struct {
	api.Node
	weight int
}

// lightest are the lightest trees of all classes that have one which weighs at most MaxWeight. Where a tree gets lighter, it becomes so behind those that it is on: so none ever stands on itself.
func (d *deck) lightest() map[int]tree {
	trees := map[int]tree{}
	for again := true; again; {
		again = false
		for _, class := range d.all() {
			for _, form := range d.forms[class] {
				weight := d.weight(form, trees)
				best, ok := trees[class]
				if weight <= api.MaxWeight && (!ok || weight < best.weight) {
					trees[class] = tree{form, weight}
					again = true
				}
			}
		}
	}
	return trees
}

// weight is what a form weighs with trees of its classes: some number above MaxWeight, if that is more, or if a class has no tree yet.
func (d *deck) weight(form api.Node, trees map[int]tree) int {
	// Of a Param it tells an error, and with it 0, which is what that weighs.
	weight, _ := array.Weight(form.Op, list.These(d.dims, form.Args))
	for _, class := range form.Args {
		under, ok := trees[class]
		weight += under.weight
		// It may stand so often that the sum would wrap round.
		if !ok || weight > api.MaxWeight {
			return api.MaxWeight + 1
		}
	}
	return weight
}

// drawn is a graph with the parameters of the deck's that gives the trees of what that gives.
func (d *deck) drawn(trees map[int]tree) api.Graph {
	out := api.Graph{Nodes: list.Fresh(d.Nodes[:graph.Params(d.Graph)])}
	stands := map[int]int{}
	var draw func(class int) int
	draw = func(class int) int {
		if at, ok := stands[class]; ok {
			return at
		}
		form := trees[class]
		if form.Op.Kind == api.Param {
			stands[class] = form.Op.At[0]
		} else {
			args := list.Each(form.Args, draw)
			stands[class] = len(out.Nodes)
			out.Nodes = append(out.Nodes, api.Node{Op: form.Op, Args: args})
		}
		return stands[class]
	}
	out.Outs = list.Each(d.given(), draw)
	return out
}
