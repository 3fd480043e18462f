package sense

import "adjoint/api"

// naming goes through a program that can be written, and throws what is wrong with its names and calls.
type naming struct {
	funcs map[string]int // the functions ahead: how many parameters each one has
	stand map[string]int // how many things a name stands for here, one within the other
	sizes map[string]int // how many of the parameters' dimensions have a name
}

func nameAll(p []api.Func) {
	n := naming{funcs: map[string]int{}}
	for i := range p {
		f := &p[i]
		n.function(f)
		// It stands ahead of the next one, but not of itself.
		n.funcs[f.Name] = len(f.Given)
	}
}

func (n *naming) function(f *api.Func) {
	_, isOwn := owned(f.Name)
	_, isAhead := n.funcs[f.Name]
	demand(!isOwn && !isAhead, api.ErrName)
	n.stand, n.sizes = map[string]int{}, map[string]int{}
	for _, given := range f.Given {
		demand(n.stand[given.Name] == 0, api.ErrName)
		n.stand[given.Name]++
		for _, dim := range given.Dims {
			n.sizes[dim.Name]++
		}
	}
	n.tree(&f.Body)
}

func (n *naming) tree(t *api.Tree) {
	switch t.Kind {
	case api.TreeName:
		demand(n.stand[t.Name] > 0, api.ErrName)
	case api.TreeCall:
		n.call(t)
	case api.TreeLet, api.TreeRepeat:
		n.tree(&t.Kids[0])
		n.stand[t.Name]++
		n.tree(&t.Kids[1])
		n.stand[t.Name]--
		return
	}
	for i := range t.Kids {
		n.tree(&t.Kids[i])
	}
}

// call looks at a call without its arguments.
func (n *naming) call(t *api.Tree) {
	if o, ok := owned(t.Name); ok {
		demand(o.written(t), api.ErrForm)
		demand(o.takes(len(t.Kids)), api.ErrMany)
		for _, dim := range t.Shape {
			demand(dim.Name == "" || n.sizes[dim.Name] > 0, api.ErrName)
		}
		return
	}
	many, ok := n.funcs[t.Name]
	demand(ok, api.ErrName)
	demand(!t.Shaped && len(t.Lists) == 0, api.ErrForm)
	demand(len(t.Kids) == many, api.ErrMany)
}
