package split_test

import (
	"testing"

	"adjoint/api"
)

// X3: a graph of nothing but parameters, of which each machine has what X1 says; those that nobody needs too.
func TestX3Params(t *testing.T) {
	three := giving(l(2, 0), par(0, 4, 6, 8), par(1), par(2, 0, 3))
	wantSplit(t, three, l(every, every, every), part(2, steps(param(0, 4, 6, 8), param(1), param(2, 0, 3)), l(2, 0), l(every, every)))
	wantSplit(t, three, l(0, every, 0), part(2, steps(param(0, 2, 6, 8), param(1), param(2, 0, 3)), l(2, 0), l(0, 0)))
	wantSplit(t, three, l(1, every, every), part(2, steps(param(0, 4, 3, 8), param(1), param(2, 0, 3)), l(2, 0), l(every, 1)))
	wantSplit(t, three, l(2, every, 1), part(1, steps(param(0, 4, 6, 8), param(1), param(2, 0, 3)), l(2, 0), l(1, 2)))
	wantSplit(t, three, l(1, every, 1), part(3, steps(param(0, 4, 2, 8), param(1), param(2, 0, 1)), l(2, 0), l(1, 1)))
	wantSplit(t, three, l(2, every, 0), part(8, steps(param(0, 4, 6, 1), param(1), param(2, 0, 3)), l(2, 0), l(0, 2)))
	wide := giving(l(0), par(0, 3, 32, 5))
	wantSplit(t, wide, l(1), part(crowd, steps(param(0, 3, 2, 5)), l(0), l(1)))
	wantSplit(t, api.Graph{}, nil, part(crowd, nil, nil, nil))
	wantSplit(t, giving(nil, par(0, 2)), l(0), part(2, steps(param(0, 1)), nil, nil))
}

// X3: a number everywhere is everywhere.
func TestX3Fill(t *testing.T) {
	for _, many := range l(1, 2, crowd) {
		wantSteps(t, last(on(fill(7, 16, 3))), many, nil, every, local(fill(7, 16, 3)))
		wantSteps(t, last(par(0, 16), on(fill(-1))), many, l(0), every, local(fill(-1)))
	}
}

// X3: what goes entry by entry lies as the first of its arguments that is cut.
func TestX3EntryByEntry(t *testing.T) {
	for _, kind := range l(api.Add, api.Sub, api.Mul, api.Max, api.Less) {
		op := bare(kind)
		g := last(par(0, 4, 6), par(1, 4, 6), on(op, 0, 1))
		wantSteps(t, g, 2, l(every, every), every, local(op, 0, 1))
		wantSteps(t, g, 2, l(0, every), 0, own(0, 1), local(op, 0, 2))
		wantSteps(t, g, 2, l(1, every), 1, own(1, 1), local(op, 0, 2))
		wantSteps(t, g, 2, l(every, 0), 0, own(0, 0), local(op, 2, 1))
		wantSteps(t, g, 2, l(every, 1), 1, own(1, 0), local(op, 2, 1))
		wantSteps(t, g, 2, l(0, 0), 0, local(op, 0, 1))
		wantSteps(t, g, 2, l(1, 1), 1, local(op, 0, 1))
		wantSteps(t, g, 2, l(0, 1), 0, swap(1, 0, 1), local(op, 0, 2))
		wantSteps(t, g, 2, l(1, 0), 1, swap(0, 1, 1), local(op, 0, 2))
		wantSteps(t, last(par(0, 4, 6), on(op, 0, 0)), 2, l(1), 1, local(op, 0, 0))
		wantSteps(t, last(par(0), par(1), on(op, 1, 0)), 2, l(every, every), every, local(op, 1, 0))
	}
}

// X3: a Pick has three arguments, which are brought one after the other.
func TestX3Pick(t *testing.T) {
	op := bare(api.Pick)
	g := last(par(0, 4, 6), par(1, 4, 6), par(2, 4, 6), on(op, 0, 1, 2))
	wantSteps(t, g, 2, l(every, every, every), every, local(op, 0, 1, 2))
	wantSteps(t, g, 2, l(1, 1, 1), 1, local(op, 0, 1, 2))
	wantSteps(t, g, 2, l(0, every, 1), 0, own(0, 1), swap(1, 0, 2), local(op, 0, 3, 4))
	wantSteps(t, g, 2, l(every, 1, 0), 1, own(1, 0), swap(0, 1, 2), local(op, 3, 1, 4))
	wantSteps(t, g, 2, l(every, every, 1), 1, own(1, 0), own(1, 1), local(op, 3, 4, 2))
	wantSteps(t, g, 2, l(1, 0, 0), 1, swap(0, 1, 1), swap(0, 1, 2), local(op, 0, 3, 4))
	// One that stands twice is brought twice.
	g = last(par(0, 4, 6), par(1, 4, 6), on(op, 0, 1, 1))
	wantSteps(t, g, 2, l(0, every), 0, own(0, 1), own(0, 1), local(op, 0, 2, 3))
	wantSteps(t, g, 2, l(1, 0), 1, swap(0, 1, 1), swap(0, 1, 1), local(op, 0, 2, 3))
	g = last(par(0, 4, 6), par(1, 4, 6), on(op, 0, 0, 1))
	wantSteps(t, g, 2, l(every, 1), 1, own(1, 0), own(1, 0), local(op, 2, 3, 1))
}

// X3: what is joined along the dimension in which it is cut is brought everywhere first.
func TestX3Join(t *testing.T) {
	op := join(1)
	g := last(par(0, 4, 6, 2), par(1, 4, 2, 2), par(2, 4, 8, 2), on(op, 0, 1, 2))
	wantSteps(t, g, 2, l(every, every, every), every, local(op, 0, 1, 2))
	wantSteps(t, g, 2, l(0, 0, 0), 0, local(op, 0, 1, 2))
	wantSteps(t, g, 2, l(2, every, 0), 2, own(2, 1), swap(0, 2, 2), local(op, 0, 3, 4))
	wantSteps(t, g, 2, l(every, 0, 2), 0, own(0, 0), swap(2, 0, 2), local(op, 3, 1, 4))
	wantSteps(t, g, 2, l(1, 1, 1), every, gather(1, 0), gather(1, 1), gather(1, 2), local(op, 3, 4, 5))
	wantSteps(t, g, 2, l(every, 1, every), every, gather(1, 1), local(op, 0, 3, 2))
	// All that is gathered is so before anything is brought to lie as the others do.
	wantSteps(t, g, 2, l(1, 0, 1), 0, gather(1, 0), gather(1, 2), own(0, 3), own(0, 4), local(op, 5, 1, 6))
	wantSteps(t, g, 2, l(1, every, 2), 2, gather(1, 0), own(2, 3), own(2, 1), local(op, 4, 5, 2))
	wantSteps(t, g, 2, l(0, 1, 2), 0, gather(1, 1), own(0, 3), swap(2, 0, 2), local(op, 0, 4, 5))
	wantSteps(t, g, 2, l(2, 1, 0), 2, gather(1, 1), own(2, 3), swap(0, 2, 2), local(op, 0, 4, 5))
	// One that stands twice is brought twice.
	wantSteps(t, last(par(0, 4, 6), on(join(0), 0, 0)), 2, l(0), every, gather(0, 0), gather(0, 0), local(join(0), 1, 2))
	wantSteps(t, last(par(0, 4, 6), on(join(0), 0, 0)), 2, l(1), 1, local(join(0), 0, 0))
	wantSteps(t, last(par(0, 4, 6), on(join(1), 0)), 2, l(1), every, gather(1, 0), local(join(1), 1))
	wantSteps(t, last(par(0, 4, 6), on(join(1), 0)), 2, l(0), 0, local(join(1), 0))
	// What many does not divide can be joined along.
	wantSteps(t, last(par(0, 3, 4), par(1, 5, 4), on(join(0), 0, 1)), 4, l(1, every), 1, own(1, 1), local(join(0), 0, 2))
}

// X3: of a Spread that dimension of Dims is divided which comes of what is cut.
func TestX3Spread(t *testing.T) {
	g := last(par(0, 4, 6), on(spread(l(3, 4, 5, 6, 7), l(1, 3)), 0))
	wantSteps(t, g, 2, l(every), every, local(spread(l(3, 4, 5, 6, 7), l(1, 3)), 0))
	wantSteps(t, g, 2, l(0), 1, local(spread(l(3, 2, 5, 6, 7), l(1, 3)), 0))
	wantSteps(t, g, 2, l(1), 3, local(spread(l(3, 4, 5, 3, 7), l(1, 3)), 0))
	wantSteps(t, g, 3, l(1), 3, local(spread(l(3, 4, 5, 2, 7), l(1, 3)), 0))
	wantSteps(t, g, 1, l(1), 3, local(spread(l(3, 4, 5, 6, 7), l(1, 3)), 0))
	wantSteps(t, last(par(0, 32), on(spread(l(2, 32), l(1)), 0)), crowd, l(0), 1, local(spread(l(2, 2), l(1)), 0))
	wantSteps(t, last(par(0), on(spread(l(2, 4), nil), 0)), 2, l(every), every, local(spread(l(2, 4), nil), 0))
	wantSteps(t, last(par(0, 0, 4), on(spread(l(0, 4, 2), l(0, 1)), 0)), 2, l(0), 0, local(spread(l(0, 4, 2), l(0, 1)), 0))
}

// X3: a Sum along what is cut is a sum over all machines; along others each makes its part.
func TestX3Sum(t *testing.T) {
	g := func(at ...int) api.Graph { return last(par(0, 4, 6, 8), on(sum(at...), 0)) }
	wantSteps(t, g(0, 2), 2, l(every), every, local(sum(0, 2), 0))
	wantSteps(t, g(0, 2), 2, l(0), every, local(sum(0, 2), 0), total(1))
	wantSteps(t, g(0, 2), 2, l(2), every, local(sum(0, 2), 0), total(1))
	wantSteps(t, g(0, 2), 2, l(1), 0, local(sum(0, 2), 0))
	wantSteps(t, g(0), 2, l(0), every, local(sum(0), 0), total(1))
	wantSteps(t, g(0), 2, l(1), 0, local(sum(0), 0))
	wantSteps(t, g(0), 2, l(2), 1, local(sum(0), 0))
	wantSteps(t, g(1), 2, l(0), 0, local(sum(1), 0))
	wantSteps(t, g(1), 2, l(2), 1, local(sum(1), 0))
	wantSteps(t, g(2), 2, l(1), 1, local(sum(2), 0))
	wantSteps(t, g(0, 1), 2, l(2), 0, local(sum(0, 1), 0))
	wantSteps(t, g(0, 1, 2), 2, l(1), every, local(sum(0, 1, 2), 0), total(1))
	wantSteps(t, g(), 2, l(2), 2, local(sum(), 0))
	wantSteps(t, g(2), 1, l(2), every, local(sum(2), 0), total(1))
	wantSteps(t, last(par(0, 16), on(sum(0), 0)), crowd, l(0), every, local(sum(0), 0), total(1))
	wantSteps(t, last(par(0), on(sum(), 0)), 2, l(every), every, local(sum(), 0))
}

// X3: of a Turn what is cut is so where it stands then.
func TestX3Turn(t *testing.T) {
	op := turn(2, 0, 1)
	g := last(par(0, 4, 6, 8), on(op, 0))
	wantSteps(t, g, 2, l(every), every, local(op, 0))
	wantSteps(t, g, 2, l(0), 1, local(op, 0))
	wantSteps(t, g, 2, l(1), 2, local(op, 0))
	wantSteps(t, g, 2, l(2), 0, local(op, 0))
	wantSteps(t, last(par(0, 4, 6), on(turn(0, 1), 0)), 2, l(1), 1, local(turn(0, 1), 0))
}

// X3: a Flip of what is cut wants all of it.
func TestX3Flip(t *testing.T) {
	op := flip(0, 2)
	g := last(par(0, 4, 6, 8), on(op, 0))
	wantSteps(t, g, 2, l(every), every, local(op, 0))
	wantSteps(t, g, 2, l(1), 1, local(op, 0))
	wantSteps(t, g, 2, l(0), every, gather(0, 0), local(op, 1))
	wantSteps(t, g, 2, l(2), every, gather(2, 0), local(op, 1))
	wantSteps(t, last(par(0, 4, 6), on(flip(), 0)), 2, l(0), 0, local(flip(), 0))
}

// X3: a Cut goes machine by machine where all is kept of what is cut.
func TestX3Cut(t *testing.T) {
	g := func(lo, hi, step []int) api.Graph { return last(par(0, 4, 6, 8), on(cut(lo, hi, step), 0)) }
	lo, hi, step := l(0, 1, 0), l(4, 5, 8), l(1, 2, 1)
	all := cut(lo, hi, step)
	wantSteps(t, g(lo, hi, step), 2, l(every), every, local(all, 0))
	wantSteps(t, g(lo, hi, step), 2, l(0), 0, local(cut(lo, l(2, 5, 8), step), 0))
	wantSteps(t, g(lo, hi, step), 2, l(2), 2, local(cut(lo, l(4, 5, 4), step), 0))
	wantSteps(t, g(lo, hi, step), 8, l(2), 2, local(cut(lo, l(4, 5, 1), step), 0))
	wantSteps(t, g(lo, hi, step), 1, l(2), 2, local(all, 0))
	wantSteps(t, g(lo, hi, step), 2, l(1), every, gather(1, 0), local(all, 1))
	// Each of the three alone: not from the first on, not to the last, not each.
	for _, op := range []api.Op{
		cut(l(1, 0, 0), l(4, 6, 8), l(1, 1, 1)),
		cut(l(0, 0, 0), l(3, 6, 8), l(1, 1, 1)),
		cut(l(0, 0, 0), l(2, 6, 8), l(1, 1, 1)),
		cut(l(0, 0, 0), l(4, 6, 8), l(2, 1, 1)),
		cut(l(4, 0, 0), l(4, 6, 8), l(1, 1, 1)),
	} {
		wantSteps(t, last(par(0, 4, 6, 8), on(op, 0)), 2, l(0), every, gather(0, 0), local(op, 1))
		half := cut(op.Lo, l(op.Hi[0], 3, 8), op.Step)
		wantSteps(t, last(par(0, 4, 6, 8), on(op, 0)), 2, l(1), 1, local(half, 0))
	}
	// Of one number, or none, all is kept with any step; but the words ask for 1.
	one := cut(l(0), l(1), l(2))
	wantSteps(t, last(par(0, 1), on(one, 0)), 1, l(0), every, gather(0, 0), local(one, 1))
	none := cut(l(0), l(0), l(3))
	wantSteps(t, last(par(0, 0), on(none, 0)), 4, l(0), every, gather(0, 0), local(none, 1))
	none = cut(l(0), l(0), l(1))
	wantSteps(t, last(par(0, 0), on(none, 0)), 4, l(0), 0, local(none, 0))
}

// X3: a Pad goes machine by machine where no noughts come along what is cut.
func TestX3Pad(t *testing.T) {
	g := func(op api.Op) api.Graph { return last(par(0, 4, 6, 8), on(op, 0)) }
	op := pad(l(0, 1, 0), l(0, 2, 0), l(1, 3, 1))
	wantSteps(t, g(op), 2, l(every), every, local(op, 0))
	wantSteps(t, g(op), 2, l(0), 0, local(op, 0))
	wantSteps(t, g(op), 2, l(2), 2, local(op, 0))
	wantSteps(t, g(op), 2, l(1), every, gather(1, 0), local(op, 1))
	for _, op := range []api.Op{
		pad(l(1, 0, 0), l(0, 0, 0), l(1, 1, 1)),
		pad(l(0, 0, 0), l(1, 0, 0), l(1, 1, 1)),
		pad(l(0, 0, 0), l(0, 0, 0), l(2, 1, 1)),
	} {
		wantSteps(t, g(op), 2, l(0), every, gather(0, 0), local(op, 1))
		wantSteps(t, g(op), 2, l(1), 1, local(op, 0))
	}
	// Between one number and none there are no noughts; but the words ask for 1.
	one := pad(l(0), l(0), l(2))
	wantSteps(t, last(par(0, 1), on(one, 0)), 1, l(0), every, gather(0, 0), local(one, 1))
}

// X3: a Reform wants all, whatever comes of it.
func TestX3Reform(t *testing.T) {
	for _, op := range []api.Op{reform(24), reform(6, 4), reform(4, 6), reform(4, 1, 6)} {
		g := last(par(0, 4, 6), on(op, 0))
		wantSteps(t, g, 2, l(every), every, local(op, 0))
		wantSteps(t, g, 2, l(0), every, gather(0, 0), local(op, 1))
		wantSteps(t, g, 2, l(1), every, gather(1, 0), local(op, 1))
	}
}

// X3: of a Dot the first row that fits is taken, however the two lie.
func TestX3Dot(t *testing.T) {
	// Summed: 0 and 2; together: 1 and 0; each one's own: 2 and 1.
	op := dot(l(0), l(2), l(1), l(0))
	g := last(par(0, 4, 6, 2), par(1, 6, 8, 4), on(op, 0, 1))
	// 1.
	wantSteps(t, g, 2, l(0, 2), every, local(op, 0, 1), total(2))
	wantSteps(t, g, 2, l(0, every), every, own(2, 1), local(op, 0, 2), total(3))
	wantSteps(t, g, 2, l(0, 0), every, swap(0, 2, 1), local(op, 0, 2), total(3))
	wantSteps(t, g, 2, l(0, 1), every, swap(1, 2, 1), local(op, 0, 2), total(3))
	// 2.
	wantSteps(t, g, 2, l(every, 2), every, own(0, 0), local(op, 2, 1), total(3))
	wantSteps(t, g, 2, l(1, 2), every, swap(1, 0, 0), local(op, 2, 1), total(3))
	wantSteps(t, g, 2, l(2, 2), every, swap(2, 0, 0), local(op, 2, 1), total(3))
	// 3.
	wantSteps(t, g, 2, l(1, 0), 0, local(op, 0, 1))
	wantSteps(t, g, 2, l(1, every), 0, own(0, 1), local(op, 0, 2))
	wantSteps(t, g, 2, l(1, 1), 0, swap(1, 0, 1), local(op, 0, 2))
	// 4.
	wantSteps(t, g, 2, l(every, 0), 0, own(1, 0), local(op, 2, 1))
	wantSteps(t, g, 2, l(2, 0), 0, swap(2, 1, 0), local(op, 2, 1))
	// 5.
	wantSteps(t, g, 2, l(2, every), 1, local(op, 0, 1))
	wantSteps(t, g, 2, l(2, 1), 1, gather(1, 1), local(op, 0, 2))
	// 6.
	wantSteps(t, g, 2, l(every, 1), 2, local(op, 0, 1))
	// 7.
	wantSteps(t, g, 2, l(every, every), every, local(op, 0, 1))
}

// X3: partners are found by their place in the lists, and what comes of a Dot by the order of its dimensions.
func TestX3DotPartners(t *testing.T) {
	// a: 2 and 0 are summed with 1 and 3 of b; 4 and 1 go together with 0 and 4; 3 and 5 are its own, of b 2.
	op := dot(l(2, 0), l(1, 3), l(4, 1), l(0, 4))
	g := last(par(0, 2, 4, 6, 2, 8, 4), par(1, 8, 6, 2, 2, 4), on(op, 0, 1))
	wantSteps(t, g, 2, l(2, every), every, own(1, 1), local(op, 0, 2), total(3))
	wantSteps(t, g, 2, l(0, every), every, own(3, 1), local(op, 0, 2), total(3))
	wantSteps(t, g, 2, l(every, 1), every, own(2, 0), local(op, 2, 1), total(3))
	wantSteps(t, g, 2, l(every, 3), every, own(0, 0), local(op, 2, 1), total(3))
	wantSteps(t, g, 2, l(4, every), 0, own(0, 1), local(op, 0, 2))
	wantSteps(t, g, 2, l(1, every), 1, own(4, 1), local(op, 0, 2))
	wantSteps(t, g, 2, l(every, 0), 0, own(4, 0), local(op, 2, 1))
	wantSteps(t, g, 2, l(every, 4), 1, own(1, 0), local(op, 2, 1))
	wantSteps(t, g, 2, l(3, every), 2, local(op, 0, 1))
	wantSteps(t, g, 2, l(5, every), 3, local(op, 0, 1))
	wantSteps(t, g, 2, l(every, 2), 4, local(op, 0, 1))
	wantSteps(t, g, 2, l(0, 1), every, swap(1, 3, 1), local(op, 0, 2), total(3))
	wantSteps(t, g, 2, l(2, 3), every, swap(3, 1, 1), local(op, 0, 2), total(3))
	wantSteps(t, g, 2, l(1, 0), 1, swap(0, 4, 1), local(op, 0, 2))
	wantSteps(t, g, 2, l(5, 4), 1, swap(5, 1, 0), local(op, 2, 1))
	// An array with itself, a matrix by a matrix, and all products.
	self := dot(l(1), l(0), nil, nil)
	wantSteps(t, last(par(0, 4, 4), on(self, 0, 0)), 2, l(0), every, swap(0, 1, 0), local(self, 1, 0), total(2))
	wantSteps(t, last(par(0, 4, 4), on(self, 0, 0)), 2, l(1), every, swap(1, 0, 0), local(self, 0, 1), total(2))
	none := dot(nil, nil, nil, nil)
	wantSteps(t, last(par(0, 4), par(1, 4), on(none, 0, 1)), 2, l(0, 0), 0, gather(0, 1), local(none, 0, 2))
	wantSteps(t, last(par(0, 4), par(1, 4), on(none, 0, 1)), 2, l(every, 0), 1, local(none, 0, 1))
	wantSteps(t, last(par(0, 16, 2), par(1, 2, 32), on(self, 0, 1)), crowd, l(every, 1), 1, local(self, 0, 1))
	wantSteps(t, last(par(0, 16, 2), par(1, 2, 32), on(self, 0, 1)), crowd, l(0, 1), 0, gather(1, 1), local(self, 0, 2))
}

// X3: rows are taken of an array of which each machine has all rows.
func TestX3Take(t *testing.T) {
	op := bare(api.Take)
	g := last(par(0, 4, 6, 2), par(1, 2, 4), on(op, 0, 1))
	wantSteps(t, g, 2, l(every, every), every, local(op, 0, 1))
	wantSteps(t, g, 2, l(every, 0), 0, local(op, 0, 1))
	wantSteps(t, g, 2, l(every, 1), 1, local(op, 0, 1))
	wantSteps(t, g, 2, l(0, every), every, gather(0, 0), local(op, 2, 1))
	wantSteps(t, g, 2, l(0, 0), 0, gather(0, 0), local(op, 2, 1))
	wantSteps(t, g, 2, l(0, 1), 1, gather(0, 0), local(op, 2, 1))
	wantSteps(t, g, 2, l(1, every), 2, local(op, 0, 1))
	wantSteps(t, g, 2, l(1, 0), 2, gather(0, 1), local(op, 0, 2))
	wantSteps(t, g, 2, l(1, 1), 2, gather(1, 1), local(op, 0, 2))
	wantSteps(t, g, 2, l(2, every), 3, local(op, 0, 1))
	wantSteps(t, g, 2, l(2, 0), 3, gather(0, 1), local(op, 0, 2))
	wantSteps(t, g, 2, l(2, 1), 3, gather(1, 1), local(op, 0, 2))
	// One row, of a number; and of an array that tells its own rows.
	wantSteps(t, last(par(0, 4, 6), par(1), on(op, 0, 1)), 2, l(1, every), 0, local(op, 0, 1))
	wantSteps(t, last(par(0, 4, 6), on(op, 0, 0)), 2, l(0), 0, gather(0, 0), local(op, 1, 0))
	wantSteps(t, last(par(0, 4, 6), on(op, 0, 0)), 2, l(1), 2, gather(1, 0), local(op, 0, 1))
}

// X3: rows are put together by all machines, or each has its part of all rows.
func TestX3Put(t *testing.T) {
	op := put(5)
	g := last(par(0, 4, 6, 2, 8), par(1, 4, 6), on(op, 0, 1))
	wantSteps(t, g, 2, l(every, every), every, local(op, 0, 1))
	wantSteps(t, g, 2, l(every, 0), every, gather(0, 1), local(op, 0, 2))
	wantSteps(t, g, 2, l(every, 1), every, gather(1, 1), local(op, 0, 2))
	wantSteps(t, g, 2, l(0, every), every, own(0, 1), local(op, 0, 2), total(3))
	wantSteps(t, g, 2, l(0, 0), every, local(op, 0, 1), total(2))
	wantSteps(t, g, 2, l(0, 1), every, swap(1, 0, 1), local(op, 0, 2), total(3))
	wantSteps(t, g, 2, l(1, every), every, own(1, 1), local(op, 0, 2), total(3))
	wantSteps(t, g, 2, l(1, 0), every, swap(0, 1, 1), local(op, 0, 2), total(3))
	wantSteps(t, g, 2, l(1, 1), every, local(op, 0, 1), total(2))
	wantSteps(t, g, 2, l(2, every), 1, local(op, 0, 1))
	wantSteps(t, g, 2, l(2, 0), 1, gather(0, 1), local(op, 0, 2))
	wantSteps(t, g, 2, l(3, 1), 2, gather(1, 1), local(op, 0, 2))
	// One row, told by a number; and an array that tells its own rows.
	wantSteps(t, last(par(0, 4), par(1), on(op, 0, 1)), 2, l(0, every), 1, local(op, 0, 1))
	wantSteps(t, last(par(0, 4), on(op, 0, 0)), 2, l(0), every, local(op, 0, 0), total(1))
}
