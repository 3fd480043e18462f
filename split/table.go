package split

import (
	"slices"

	"adjoint/api"
	"adjoint/list"
)

// node lays the steps of an operation on what these steps make, by the table of X3; the last one of them makes what it is worth.
func (l *layout) node(op api.Op, args []int) int {
	switch op.Kind {
	case api.Fill:
		return l.local(op, api.Everywhere)
	case api.Join:
		return l.alike(op, l.together(op.At[0], args))
	case api.Dot:
		return l.dot(op, args[0], args[1])
	case api.Take:
		return l.take(op, args[0], args[1])
	case api.Put:
		return l.put(op, args[0], args[1])
	case api.Spread, api.Sum, api.Turn, api.Flip, api.Cut, api.Pad, api.Reform:
		return l.moved(op, args[0])
	}
	return l.alike(op, args)
}

// alike lays an operation on arguments that all lie as the first one of them that is cut.
func (l *layout) alike(op api.Op, args []int) int {
	lies := api.Everywhere
	if first := slices.IndexFunc(args, l.isCut); first >= 0 {
		lies = l.lies[args[first]]
	}
	brought := list.Each(args, func(at int) int { return l.bring(at, lies) })
	return l.local(op, lies, brought...)
}

// together are steps of which none is cut along a dimension.
func (l *layout) together(along int, args []int) []int {
	return list.Each(args, func(at int) int {
		if l.lies[at] == along {
			return l.bring(at, api.Everywhere)
		}
		return at
	})
}

// isCut tells whether what a step makes is cut.
func (l *layout) isCut(at int) bool { return l.lies[at] != api.Everywhere }

// moved lays an operation that moves or sums the entries of one argument.
func (l *layout) moved(op api.Op, a int) int {
	h := l.lies[a]
	if !l.isCut(a) {
		return l.local(op, api.Everywhere, a)
	}
	if op.Kind == api.Sum && slices.Contains(op.At, h) {
		return l.summed(op, a)
	}
	to := l.becomes(op, a, h)
	if to == api.Everywhere {
		return l.local(op, api.Everywhere, l.bring(a, api.Everywhere))
	}
	// These two name dimensions, or how far they go: a machine goes less far.
	switch op.Kind {
	case api.Spread:
		op.Dims = l.share(op.Dims, to)
	case api.Cut:
		op.Hi = l.share(op.Hi, to)
	}
	return l.local(op, to, a)
}

// becomes is which dimension comes of the one along which an argument is cut, if each machine can make its own part; else Everywhere.
func (l *layout) becomes(op api.Op, a, h int) int {
	stays := false
	switch op.Kind {
	case api.Spread:
		return op.At[h]
	case api.Sum:
		return slices.Index(list.Others(len(l.dims[a]), op.At), h)
	case api.Turn:
		return slices.Index(op.At, h)
	case api.Flip:
		stays = !slices.Contains(op.At, h)
	case api.Cut:
		stays = op.Lo[h] == 0 && op.Hi[h] == l.whole(a)[h] && op.Step[h] == 1
	case api.Pad:
		stays = op.Lo[h] == 0 && op.Hi[h] == 0 && op.Step[h] == 1
	}
	if !stays {
		return api.Everywhere
	}
	return h
}

// dot lays a Dot.
func (l *layout) dot(op api.Op, a, b int) int {
	ha, hb := l.lies[a], l.lies[b]
	freeA := list.Others(len(l.dims[a]), op.Lo, op.At)
	freeB := list.Others(len(l.dims[b]), op.Hi, op.Step)
	if k := slices.Index(op.At, ha); k >= 0 {
		return l.summed(op, a, l.bring(b, op.Step[k]))
	}
	if k := slices.Index(op.Step, hb); k >= 0 {
		return l.summed(op, l.bring(a, op.At[k]), b)
	}
	if k := slices.Index(op.Lo, ha); k >= 0 {
		return l.local(op, k, a, l.bring(b, op.Hi[k]))
	}
	if k := slices.Index(op.Hi, hb); k >= 0 {
		return l.local(op, k, l.bring(a, op.Lo[k]), b)
	}
	if k := slices.Index(freeA, ha); k >= 0 {
		return l.local(op, len(op.Lo)+k, a, l.bring(b, api.Everywhere))
	}
	if k := slices.Index(freeB, hb); k >= 0 {
		return l.local(op, len(op.Lo)+len(freeA)+k, a, b)
	}
	return l.local(op, api.Everywhere, a, b)
}

// take lays a Take.
func (l *layout) take(op api.Op, a, b int) int {
	if l.lies[a] == 0 {
		a = l.bring(a, api.Everywhere)
	}
	if l.isCut(a) {
		// What a makes begins behind b's dimensions, and a's first one is not among it.
		return l.local(op, len(l.dims[b])+l.lies[a]-1, a, l.bring(b, api.Everywhere))
	}
	return l.local(op, l.lies[b], a, b)
}

// put lays a Put.
func (l *layout) put(op api.Op, a, b int) int {
	h, first := l.lies[a], len(l.dims[b])
	if !l.isCut(a) {
		return l.local(op, api.Everywhere, a, l.bring(b, api.Everywhere))
	}
	if h < first {
		return l.summed(op, a, l.bring(b, h))
	}
	// The rows' numbers are one dimension, in the place of b's.
	return l.local(op, 1+h-first, a, l.bring(b, api.Everywhere))
}
