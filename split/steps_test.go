package split_test

import (
	"testing"

	"adjoint/api"
)

// X3: what was brought for one node is brought anew for the next one, and for what is alike.
func TestX3BroughtAnew(t *testing.T) {
	add, mul, sub := bare(api.Add), bare(api.Mul), bare(api.Sub)
	g := last(par(0, 4, 6), par(1, 4, 6), on(add, 0, 1), on(mul, 0, 1), on(sub, 2, 3))
	wantSteps(t, g, 2, l(0, every), 0, own(0, 1), local(add, 0, 2), own(0, 1), local(mul, 0, 4), local(sub, 3, 5))
	wantSteps(t, g, 2, l(0, 1), 0, swap(1, 0, 1), local(add, 0, 2), swap(1, 0, 1), local(mul, 0, 4), local(sub, 3, 5))
	g = last(par(0, 4, 6), on(reform(24), 0), on(reform(6, 4), 0), on(sum(0), 1), on(sum(0, 1), 2), on(add, 3, 4))
	wantSteps(t, g, 2, l(1), every,
		gather(1, 0), local(reform(24), 1), local(sum(0), 2),
		gather(1, 0), local(reform(6, 4), 4), local(sum(0, 1), 5), local(add, 3, 6))
	// There and back again: what is gathered is not taken for what it was.
	g = last(par(0, 4), on(flip(0), 0), on(add, 1, 0), on(flip(0), 2), on(add, 0, 3))
	wantSteps(t, g, 2, l(0), 0,
		gather(0, 0), local(flip(0), 1), own(0, 2), local(add, 3, 0),
		gather(0, 4), local(flip(0), 5), own(0, 6), local(add, 0, 7))
}

// X3: what lies everywhere by a sum goes on so; what is cut, too.
func TestX3Chain(t *testing.T) {
	mat := dot(l(1), l(0), nil, nil)
	mul := bare(api.Mul)
	g := last(par(0, 4, 6), par(1, 6, 4), on(mat, 0, 1), on(turn(1, 0), 2), on(mul, 2, 3), on(sum(0), 4))
	wantSteps(t, g, 2, l(1, 0), every, local(mat, 0, 1), total(2), local(turn(1, 0), 3), local(mul, 3, 4), local(sum(0), 5))
	wantSteps(t, g, 2, l(0, every), every, local(mat, 0, 1), local(turn(1, 0), 2), swap(1, 0, 3), local(mul, 2, 4), local(sum(0), 5), total(6))
	wantSteps(t, g, 2, l(every, 1), 0, local(mat, 0, 1), local(turn(1, 0), 2), swap(0, 1, 3), local(mul, 2, 4), local(sum(0), 5))
	wantSteps(t, g, 1, l(0, 0), every, swap(0, 1, 0), local(mat, 2, 1), total(3), local(turn(1, 0), 4), local(mul, 4, 5), local(sum(0), 6))
}

// X3: the steps are those of the tidy graph: what nobody needs is not there, what is alike is there once, in the order of what is given, and operations are plain.
func TestX3TidyFirst(t *testing.T) {
	full := func(kind int) api.Op {
		return api.Op{Kind: kind, Dims: l(9), At: l(7, 8), Lo: l(6), Hi: l(5), Step: l(4), Value: 3}
	}
	g := giving(l(5, 4, 5, 1),
		par(0, 4), par(1, 4), par(2, 6),
		on(full(api.Mul), 0, 1), on(bare(api.Add), 0, 0), on(bare(api.Mul), 0, 1),
		on(fill(3, 2)), on(bare(api.Sub), 3, 5))
	g.Nodes[0].Op.Value, g.Nodes[0].Op.Lo = 5, l(1, 2)
	wantSplit(t, g, l(0, every, 0), part(2, steps(
		param(0, 2), param(1, 4), param(2, 3),
		own(0, 1), local(bare(api.Mul), 0, 3), local(bare(api.Add), 0, 0),
	), l(4, 5, 4, 1), l(0, 0, 0, every)))
	odd := sum(0)
	odd.Dims, odd.Value, odd.Hi = l(1), 8, l(2)
	wantSteps(t, last(par(0, 4), on(odd, 0)), 2, l(0), every, local(sum(0), 0), total(1))
	odd = full(api.Fill)
	wantSteps(t, last(on(odd)), 2, nil, every, local(fill(3, 9)))
	odd = full(api.Take)
	wantSteps(t, last(par(0, 4), on(odd, 0, 0)), 2, l(0), 0, gather(0, 0), local(bare(api.Take), 1, 0))
	odd = full(api.Put)
	wantSteps(t, last(par(0, 4), on(odd, 0, 0)), 2, l(every), every, local(put(9), 0, 0))
}

// X3: Outs are the last steps of what is given, as often as it is; a parameter too.
func TestX3OutsAndHow(t *testing.T) {
	g := giving(l(3, 0, 2, 3, 4, 1), par(0, 4, 6), par(1, 6), on(sum(0), 0), on(turn(1, 0), 0), on(fill(1)))
	wantSplit(t, g, l(1, every), part(2, steps(param(0, 4, 3), param(1, 6), local(turn(1, 0), 0), local(sum(0), 0), local(fill(1))),
		l(2, 0, 3, 2, 4, 1), l(0, 1, 0, 0, every, every)))
	wantSplit(t, g, l(0, 0), part(2, steps(param(0, 2, 6), param(1, 3), local(turn(1, 0), 0), local(sum(0), 0), total(3), local(fill(1))),
		l(2, 0, 4, 2, 5, 1), l(1, 0, every, 1, every, 0)))
	wantSplit(t, giving(nil, g.Nodes...), l(0, 0), part(2, steps(param(0, 2, 6), param(1, 3)), nil, nil))
	for _, how := range [][]int{l(0, 0), l(1, every), l(every, 0)} {
		for _, many := range l(1, 2) {
			wantByHand(t, thrown(4), g, many, how)
		}
	}
}

// X1, X3: one machine has all, however it lies; and steps are made as for many.
func TestX3OneMachine(t *testing.T) {
	add := bare(api.Add)
	g := last(par(0, 3, 5), par(1, 3, 5), on(add, 0, 1), on(flip(0), 2))
	wantSteps(t, g, 1, l(0, 1), every, swap(1, 0, 1), local(add, 0, 2), gather(0, 3), local(flip(0), 4))
	wantSteps(t, g, 1, l(every, 1), 1, own(1, 0), local(add, 2, 1), local(flip(0), 3))
}
