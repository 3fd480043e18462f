package sense

import "adjoint/api"

// own is what the language has of its own: which operation it is, and what it must be called with.
type own struct {
	name   string
	kind   int
	shaped bool
	lists  int
	more   int // so many lists may stand behind these, all of them or none
	args   int
	rest   bool // any number of arguments may stand behind these
}

// The signs stand among the names: no name is written as they are.
var owns = [...]own{
	{name: "+", kind: api.Add, args: 2},
	{name: "-", kind: api.Sub, args: 2},
	{name: "*", kind: api.Mul, args: 2},
	{name: "max", kind: api.Max, args: 2},
	{name: "less", kind: api.Less, args: 2},
	{name: "pick", kind: api.Pick, args: 3},
	{name: "spread", kind: api.Spread, shaped: true, lists: 1, args: 1},
	{name: "sum", kind: api.Sum, lists: 1, args: 1},
	{name: "turn", kind: api.Turn, lists: 1, args: 1},
	{name: "flip", kind: api.Flip, lists: 1, args: 1},
	{name: "reform", kind: api.Reform, shaped: true, args: 1},
	{name: "cut", kind: api.Cut, lists: 3, args: 1},
	{name: "pad", kind: api.Pad, lists: 3, args: 1},
	{name: "dot", kind: api.Dot, lists: 2, more: 2, args: 2},
	{name: "join", kind: api.Join, lists: 1, args: 1, rest: true},
	{name: "take", kind: api.Take, args: 2},
	{name: "put", kind: api.Put, shaped: true, args: 2},
}

// owned is what the language has under a name; false: nothing.
func owned(name string) (own, bool) {
	for _, o := range owns {
		if o.name == name {
			return o, true
		}
	}
	return own{}, false
}

// written tells whether a call has a shape and lists as it must.
func (o own) written(t *api.Tree) bool {
	lists := len(t.Lists)
	return t.Shaped == o.shaped && (lists == o.lists || lists == o.lists+o.more)
}

// takes tells whether there may be so many arguments.
func (o own) takes(many int) bool { return many == o.args || o.rest && many > o.args }

// entryByEntry tells whether arguments without dimensions go together with such as have some.
func (o own) entryByEntry() bool {
	switch o.kind {
	case api.Add, api.Sub, api.Mul, api.Max, api.Less, api.Pick:
		return true
	}
	return false
}

// op is the operation of a call that is written as it must be; dims are what its shape stands for.
func (o own) op(lists [][]int, dims []int) api.Op {
	op := api.Op{Kind: o.kind, Dims: dims}
	switch o.kind {
	case api.Cut, api.Pad:
		op.Lo, op.Hi, op.Step = lists[0], lists[1], lists[2]
	case api.Dot:
		op.At, op.Step = lists[0], lists[1]
		if len(lists) > o.lists {
			op.Lo, op.Hi = lists[2], lists[3]
		}
	case api.Spread, api.Sum, api.Turn, api.Flip, api.Join:
		op.At = lists[0]
	}
	return op
}
