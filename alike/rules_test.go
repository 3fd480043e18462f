package alike_test

import (
	"math"
	"testing"

	"adjoint/api"
)

// Numbers without dimensions, and matrices.
func numbers() (x, y, z, u term)  { return par(0), par(1), par(2), par(3) }
func matrices() (x, y, z, u term) { return par(0, 2, 2), par(1, 2, 2), par(2, 2, 2), par(3, 2, 2) }

// same is a term without fields on two others.
func same(kind int, a, b term) term { return on(api.Op{Kind: kind}, a, b) }

func TestL3Swapped(t *testing.T) {
	for _, of := range []func() (x, y, z, u term){numbers, matrices} {
		x, y, _, _ := of()
		for _, kind := range l(api.Add, api.Mul, api.Max) {
			become(t, 1, same(kind, x, y), same(kind, y, x))
			wantForms(t, giving(same(kind, x, y)), 3, 4, 4, 4, 4)
			// Of both it is known already.
			wantForms(t, giving(same(kind, x, y), same(kind, y, x)), 4, 4, 4)
		}
		wantForms(t, giving(add(x, x)), 2, 2, 2, 2, 2)
		stayTwo(t, less(x, y), less(y, x))
		wantForms(t, giving(less(x, y), less(y, x)), 4, 4, 4, 4, 4)
		stayTwo(t, sub(x, y), sub(y, x))
		stayTwo(t, pick(x, x, y), pick(x, y, x))
		stayTwo(t, add(x, y), mul(x, y))
	}
	x, y, _, _ := matrices()
	stayTwo(t, dot(x, y), dot(y, x))
	stayTwo(t, join(0, x, y), join(0, y, x))
}

func TestL3Regrouped(t *testing.T) {
	x, y, z, u := numbers()
	for _, kind := range l(api.Add, api.Mul) {
		left := same(kind, same(kind, x, y), z)
		become(t, 1, left, same(kind, x, same(kind, y, z)))
		become(t, 2, left, same(kind, y, same(kind, x, z)))
		stayTwo(t, left, same(kind, x, same(kind, y, u)))
		// Two are swapped, and there are y with z and x with that; then both ways to see the first two, and what is new is swapped.
		wantForms(t, giving(left), 5, 9, 13)
		// It stands on the other side.
		wantForms(t, giving(same(kind, x, same(kind, y, z))), 5, 7)
		// Each way: two forms are in one class from the beginning of the second round on.
		both := same(kind, same(kind, x, y), same(kind, z, u))
		become(t, 1, both, same(kind, x, same(kind, y, same(kind, z, u))))
		become(t, 2, both, same(kind, z, same(kind, u, same(kind, x, y))))
	}
	stayTwo(t, most(most(x, y), z), most(x, most(y, z)))
	stayTwo(t, add(mul(x, y), z), add(x, mul(y, z)))
	stayTwo(t, less(less(x, y), z), less(x, less(y, z)))
}

func TestL3Numbers(t *testing.T) {
	for _, dims := range [][]int{nil, l(3), l(2, 3), l(0), l(0, 2)} {
		n := func(v int64) term { return fill(v, dims...) }
		become(t, 1, add(n(2), n(3)), n(5))
		become(t, 1, add(n(2), n(2)), n(4))
		become(t, 1, mul(n(2), n(3)), n(6))
		become(t, 1, mul(n(-3), n(-3)), n(9))
		become(t, 1, add(n(math.MaxInt64), n(1)), n(math.MinInt64))
		become(t, 1, add(n(math.MinInt64), n(math.MinInt64)), n(0))
		become(t, 1, mul(n(math.MaxInt64), n(2)), n(-2))
		become(t, 1, mul(n(1<<32), n(1<<32)), n(0))
		become(t, 1, mul(n(math.MinInt64), n(-1)), n(math.MinInt64))
		stayTwo(t, add(n(2), n(3)), n(6))
		stayTwo(t, mul(n(2), n(3)), n(5))
		stayTwo(t, n(2), n(3))
		wantForms(t, giving(add(n(2), n(3))), 3, 5, 5, 5, 5)
		wantForms(t, giving(mul(n(2), n(3))), 3, 5, 5, 5, 5)
		// One of them alone is a number.
		wantForms(t, giving(add(par(0, dims...), n(3))), 3, 4, 4, 4, 4)
		wantForms(t, giving(mul(n(3), par(0, dims...))), 3, 4, 4, 4, 4)
		// It is one by the round before.
		become(t, 2, add(add(n(2), n(3)), n(4)), n(9))
		become(t, 2, mul(n(5), mul(n(2), n(3))), n(30))
		stayTwo(t, most(n(2), n(3)), n(3))
		stayTwo(t, less(n(2), n(3)), n(1))
		stayTwo(t, pick(n(1), n(2), n(3)), n(2))
	}
	// A difference of numbers: it is a sum with a product, that is a number, the sum is one.
	become(t, 3, sub(fill(7), fill(2)), fill(5))
}

func TestL3NoughtsAndOnes(t *testing.T) {
	for _, dims := range [][]int{nil, l(3), l(2, 3), l(0), l(1, 1, 1, 1, 1, 1)} {
		x := par(0, dims...)
		n := func(v int64) term { return fill(v, dims...) }
		become(t, 1, add(x, n(0)), x)
		become(t, 2, add(n(0), x), x)
		become(t, 1, mul(x, n(1)), x)
		become(t, 2, mul(n(1), x), x)
		become(t, 1, mul(x, n(0)), n(0))
		become(t, 2, mul(n(0), x), n(0))
		wantForms(t, giving(add(x, n(0))), 3, 4)
		wantForms(t, giving(mul(x, n(1))), 3, 4)
		wantForms(t, giving(mul(x, n(0))), 3, 4)
		stayTwo(t, add(x, n(1)), x)
		stayTwo(t, add(x, n(-1)), x)
		stayTwo(t, mul(x, n(-1)), x)
		stayTwo(t, mul(x, n(2)), x)
		stayTwo(t, mul(x, n(1)), n(1))
		stayTwo(t, add(x, n(0)), n(0))
		stayTwo(t, most(x, n(0)), x)
		stayTwo(t, less(x, n(0)), x)
		// A difference with nothing: by a product, which is nothing.
		become(t, 3, sub(x, n(0)), x)
	}
}

func TestL3Factors(t *testing.T) {
	x, y, z, _ := numbers()
	apart := add(mul(x, y), mul(x, z))
	become(t, 1, apart, mul(x, add(y, z)))
	// Three are swapped; y + z, and x times that.
	wantForms(t, giving(apart), 6, 11)
	// What is alike is not the first of both: it is so when they have been swapped.
	wantForms(t, giving(add(mul(x, y), mul(z, y))), 6, 9, 13)
	wantForms(t, giving(add(mul(y, x), mul(z, y))), 6, 9, 13)
	// One product, twice.
	wantForms(t, giving(add(mul(x, y), mul(x, y))), 4, 7)
	become(t, 1, add(mul(x, y), mul(x, y)), mul(x, add(y, y)))
	wantForms(t, giving(add(mul(x, y), x)), 4, 6)
	wantForms(t, giving(add(x, mul(x, y))), 4, 6)
	wantForms(t, giving(most(mul(x, y), mul(x, z))), 6, 9)

	whole := mul(x, add(y, z))
	// Two are swapped; two products, and their sum.
	wantForms(t, giving(whole), 5, 10)
	wantForms(t, giving(mul(add(y, z), x)), 5, 7, 11)
	wantForms(t, giving(mul(x, add(x, x))), 3, 6)
	wantForms(t, giving(mul(x, most(y, z))), 5, 7)
	wantForms(t, giving(mul(x, sub(y, z))), 5, 9)
	stayTwo(t, add(x, mul(y, z)), mul(add(x, y), add(x, z)))
}

func TestL3Differences(t *testing.T) {
	for _, dims := range [][]int{nil, l(2), l(3, 2), l(0)} {
		x, y := par(0, dims...), par(1, dims...)
		become(t, 1, sub(x, y), add(x, mul(fill(-1, dims...), y)))
		wantForms(t, giving(sub(x, y)), 3, 6)
		become(t, 1, sub(x, x), fill(0, dims...))
		// The number -1, the product, the sum, the number 0.
		wantForms(t, giving(sub(x, x)), 2, 6)
		stayTwo(t, sub(x, y), fill(0, dims...))
		stayTwo(t, sub(x, y), add(y, mul(fill(-1, dims...), x)))
		// Both are one by the round before.
		become(t, 2, sub(add(x, fill(0, dims...)), x), fill(0, dims...))
	}
}

func TestL3Choices(t *testing.T) {
	for _, of := range []func() (x, y, z, u term){numbers, matrices} {
		x, y, z, u := of()
		become(t, 1, most(x, x), x)
		wantForms(t, giving(most(x, x)), 2, 2, 2)
		stayTwo(t, most(x, y), x)
		stayTwo(t, most(x, y), y)
		become(t, 1, pick(x, y, y), y)
		become(t, 1, pick(x, x, x), x)
		wantForms(t, giving(pick(x, y, y)), 3, 3, 3)
		stayTwo(t, pick(x, y, z), y)
		stayTwo(t, pick(x, y, z), z)
		stayTwo(t, pick(x, x, y), x)
		stayTwo(t, pick(x, y, x), x)
		wantForms(t, giving(pick(x, y, z), pick(x, y, u), pick(x, x, y)), 7, 7, 7)
		become(t, 2, pick(x, y, most(y, y)), y)
		stayTwo(t, less(x, x), most(x, y))
	}
}

func TestL3Spread(t *testing.T) {
	become(t, 1, spread(fill(3), l(2, 3)), fill(3, 2, 3))
	become(t, 1, spread(fill(3, 2), l(2, 3), 0), fill(3, 2, 3))
	become(t, 1, spread(fill(3, 2, 3), l(2, 3), 0, 1), fill(3, 2, 3))
	become(t, 1, spread(fill(-3), nil), fill(-3))
	become(t, 1, spread(fill(3), l(0)), fill(3, 0))
	become(t, 1, spread(fill(3, 0), l(0, 4096, 4096), 0), fill(3, 0, 4096, 4096))
	// The number has the dimensions of what is spread, not of what it is spread from.
	wantForms(t, giving(spread(fill(3), l(2, 3))), 2, 3, 3, 3, 3)
	wantForms(t, giving(spread(fill(3), l(2, 3)), fill(3, 2, 3)), 3, 3, 3)
	stayTwo(t, spread(fill(3), l(2)), fill(2, 2))
	wantForms(t, giving(spread(par(0), l(2))), 2, 2, 2)
	// A spread that changes nothing is no rule.
	stayTwo(t, spread(par(0, 2), l(2), 0), par(0, 2))
	stayTwo(t, spread(spread(par(0), l(2)), l(3, 2), 1), spread(par(0), l(3, 2)))
}

func TestL3SumOverNothing(t *testing.T) {
	for _, dims := range [][]int{nil, l(1), l(2, 3), l(0)} {
		x := par(0, dims...)
		become(t, 1, sum(x), x)
		become(t, 1, sum(sum(x)), x)
		become(t, 1, sum(fill(3, dims...)), fill(3, dims...))
	}
	wantForms(t, giving(sum(par(0, 2, 3))), 2, 2, 2)
	wantForms(t, giving(sum(par(0, 1, 1), 0)), 2, 2, 2)
	// Over a dimension of 1, and then back.
	stayTwo(t, reform(sum(par(0, 1, 2), 0), 1, 2), par(0, 1, 2))
}

func TestL3SumOfNumbers(t *testing.T) {
	become(t, 1, sum(fill(3, 2, 3), 0), fill(6, 3))
	become(t, 1, sum(fill(3, 2, 3), 1), fill(9, 2))
	become(t, 1, sum(fill(3, 2, 3), 0, 1), fill(18))
	become(t, 1, sum(fill(3, 2, 5, 3), 0, 2), fill(18, 5))
	become(t, 1, sum(fill(3, 1, 2), 0), fill(3, 2))
	become(t, 1, sum(fill(3, 0, 2), 0), fill(0, 2))
	become(t, 1, sum(fill(3, 0, 2), 1), fill(6, 0))
	become(t, 1, sum(fill(3, 0, 2), 0, 1), fill(0))
	become(t, 1, sum(fill(math.MaxInt64, 2), 0), fill(-2))
	become(t, 1, sum(fill(1<<60, 16), 0), fill(0))
	become(t, 1, sum(fill(-1, 4096, 16), 0, 1), fill(-65536))
	// Five dimensions of 4096 are 2 to the 60th.
	wide := func(n int64) term { return sum(fill(n, 4096, 4096, 4096, 0, 4096, 4096), 0, 1, 2, 4, 5) }
	become(t, 1, wide(3), fill(3<<60, 0))
	become(t, 1, wide(8), fill(math.MinInt64, 0))
	become(t, 1, wide(16), fill(0, 0))
	become(t, 1, sum(fill(7, 4096, 4096, 0, 4096, 4096, 4096), 0, 1, 2, 3, 4, 5), fill(0))
	stayTwo(t, wide(3), fill(3, 0))
	wantForms(t, giving(sum(fill(3, 2, 3), 0)), 2, 3, 3, 3)
	wantForms(t, giving(sum(par(0, 2, 3), 0)), 2, 2, 2)
}

func TestL3SumOfSums(t *testing.T) {
	x := par(0, 2, 2, 2, 2)
	for _, c := range []struct{ first, second, both []int }{
		{l(0), l(0), l(0, 1)},
		{l(0), l(1), l(0, 2)},
		{l(1), l(0), l(0, 1)},
		{l(1), l(1), l(1, 2)},
		{l(1), l(2), l(1, 3)},
		{l(3), l(2), l(2, 3)},
		{l(0, 2), l(1), l(0, 2, 3)},
		{l(2), l(0, 2), l(0, 2, 3)},
		{l(1, 2), l(0, 1), l(0, 1, 2, 3)},
		{l(0, 1, 2), l(0), l(0, 1, 2, 3)},
		{nil, l(1, 2), l(1, 2)},
		{l(1, 2), nil, l(1, 2)},
	} {
		become(t, 1, sum(sum(x, c.first...), c.second...), sum(x, c.both...))
	}
	stayTwo(t, sum(sum(x, 0), 0), sum(x, 0, 2))
	stayTwo(t, sum(sum(x, 1), 1), sum(x, 0, 1))
	stayTwo(t, sum(x, 0), sum(x, 1))
	wantForms(t, giving(sum(sum(x, 1), 1)), 3, 4, 4, 4)
	wantForms(t, giving(sum(sum(sum(x, 1), 1), 0)), 4, 6, 7, 7)
	become(t, 1, sum(sum(par(0, 4096, 0, 4096), 1, 2), 0), sum(par(0, 4096, 0, 4096), 0, 1, 2))
}

func TestL3SumOfSum(t *testing.T) {
	for _, dims := range [][]int{l(2, 2), l(3, 2), l(0, 2), l(2, 0)} {
		x, y := par(0, dims...), par(1, dims...)
		for _, at := range [][]int{nil, l(0), l(1), l(0, 1)} {
			become(t, 1, sum(add(x, y), at...), add(sum(x, at...), sum(y, at...)))
			become(t, 1, sum(add(x, x), at...), add(sum(x, at...), sum(x, at...)))
		}
		wantForms(t, giving(sum(add(x, y), 0)), 4, 8)
		wantForms(t, giving(sum(add(x, x), 0)), 3, 5)
		wantForms(t, giving(sum(mul(x, y), 0)), 4, 5, 5, 5)
		wantForms(t, giving(sum(most(x, y), 0)), 4, 5, 5, 5)
		stayTwo(t, sum(mul(x, y), 1), mul(sum(x, 1), sum(y, 1)))
		stayTwo(t, sum(less(x, y), 1), less(sum(x, 1), sum(y, 1)))
	}
	x, y := par(0, 2, 2), par(1, 2, 2)
	stayTwo(t, sum(add(x, y), 0), add(sum(x, 0), sum(y, 1)))
	stayTwo(t, sum(add(x, y), 0), add(sum(x, 1), sum(y, 1)))
}

func TestL3SumOfSpread(t *testing.T) {
	x := par(0, 2)
	become(t, 1, sum(spread(x, l(3, 2), 1), 0), mul(x, fill(3, 2)))
	become(t, 1, sum(spread(x, l(2, 3), 0), 1), mul(x, fill(3, 2)))
	become(t, 1, sum(spread(x, l(3, 2, 4), 1), 0, 2), mul(x, fill(12, 2)))
	become(t, 1, sum(spread(x, l(2, 2), 0), 1), mul(x, fill(2, 2)))
	become(t, 1, sum(spread(x, l(2, 2), 1), 0), mul(x, fill(2, 2)))
	become(t, 1, sum(spread(par(0), l(5)), 0), mul(par(0), fill(5)))
	become(t, 1, sum(spread(par(0), l(4, 5)), 0, 1), mul(par(0), fill(20)))
	become(t, 1, sum(spread(x, l(0, 2), 1), 0), mul(x, fill(0, 2)))
	become(t, 1, sum(spread(par(0, 0), l(4096, 4096, 0, 4096, 4096, 4096), 2), 0, 1, 3, 4, 5), mul(par(0, 0), fill(1<<60, 0)))
	// Once for each number that is the same: the product is one by the round behind.
	become(t, 2, sum(spread(x, l(1, 2), 1), 0), x)
	become(t, 2, sum(spread(x, l(0, 2), 1), 0), fill(0, 2))
	// Nothing is new, nothing is summed.
	become(t, 1, sum(spread(x, l(2), 0)), spread(x, l(2), 0))
	become(t, 1, sum(spread(x, l(2), 0)), mul(x, fill(1, 2)))
	wantForms(t, giving(sum(spread(x, l(2), 0))), 3, 5)
	wantForms(t, giving(sum(spread(x, l(3, 2), 1), 0)), 3, 5)
	// What is summed is not what is new: the same dimension, fewer, more.
	for _, other := range []term{sum(spread(x, l(3, 2), 1), 1), sum(spread(x, l(3, 2), 1), 0, 1), sum(spread(x, l(3, 2, 4), 1), 0),
		sum(spread(x, l(3, 2, 4), 1), 2), sum(spread(x, l(2, 2), 0), 0), sum(spread(x, l(2), 0), 0)} {
		wantForms(t, giving(other), 3, 3, 3, 3)
	}
	stayTwo(t, sum(spread(x, l(2, 2), 1), 1), mul(x, fill(2, 2)))
}

func TestL3StaysWhereItIs(t *testing.T) {
	for _, dims := range [][]int{nil, l(2), l(2, 3), l(0, 2), l(1, 2, 3, 4, 5, 6)} {
		x := par(0, dims...)
		become(t, 1, turn(x, upTo(len(dims))...), x)
		become(t, 1, flip(x), x)
		become(t, 1, reform(x, dims...), x)
		wantForms(t, giving(turn(x, upTo(len(dims))...), flip(x), reform(x, dims...)), 4, 4, 4)
	}
	x := par(0, 2, 2)
	stayTwo(t, turn(x, 1, 0), x)
	stayTwo(t, turn(par(0, 1, 1), 1, 0), par(0, 1, 1))
	stayTwo(t, flip(x, 0), x)
	stayTwo(t, flip(x, 0), flip(x, 1))
	stayTwo(t, flip(par(0, 1), 0), par(0, 1))
	stayTwo(t, flip(par(0, 0), 0), par(0, 0))
	wantForms(t, giving(turn(x, 1, 0), flip(x, 0), reform(x, 4), reform(x, 2, 2, 1)), 5, 5, 5, 5, 5)
	stayTwo(t, reform(turn(x, 1, 0), 2, 2), x)
	// Of a number everywhere no rule speaks: it stays, but for the dimensions that it has.
	stayTwo(t, flip(fill(3, 2), 0), fill(3, 2))
	stayTwo(t, turn(fill(3, 2, 3), 1, 0), fill(3, 3, 2))
	stayTwo(t, reform(fill(3, 2, 3), 6), fill(3, 6))
}

func TestL3Turns(t *testing.T) {
	x := par(0, 2, 2, 2)
	become(t, 1, turn(turn(x, 1, 2, 0), 0, 2, 1), turn(x, 1, 0, 2))
	stayTwo(t, turn(turn(x, 1, 2, 0), 0, 2, 1), turn(x, 2, 1, 0))
	become(t, 1, turn(turn(x, 1, 2, 0), 1, 2, 0), turn(x, 2, 0, 1))
	// They undo each other: a turn that changes nothing, and that is x in the next round.
	become(t, 2, turn(turn(x, 1, 2, 0), 2, 0, 1), x)
	become(t, 2, turn(turn(x, 1, 0, 2), 1, 0, 2), x)
	become(t, 1, turn(turn(x, 1, 2, 0), 2, 0, 1), turn(x, 0, 1, 2))
	stayTwo(t, turn(turn(x, 1, 2, 0), 1, 2, 0), x)
	wantForms(t, giving(turn(turn(x, 1, 2, 0), 2, 0, 1)), 3, 4, 4)
	wantForms(t, giving(turn(x, 1, 2, 0)), 2, 2, 2)
	y := par(0, 2, 3, 4)
	become(t, 1, turn(turn(y, 1, 2, 0), 0, 2, 1), turn(y, 1, 0, 2))
	become(t, 2, turn(turn(y, 1, 2, 0), 2, 0, 1), y)
	stayTwo(t, turn(flip(x, 0), 1, 0, 2), flip(turn(x, 1, 0, 2), 1))
}

func TestL3Flips(t *testing.T) {
	x := par(0, 2, 3, 2, 2, 1, 2)
	for _, c := range []struct{ first, second, both []int }{
		{l(0), l(1), l(0, 1)},
		{l(1), l(0), l(0, 1)},
		{l(0, 1), l(1), l(0)},
		{l(1), l(0, 1), l(0)},
		{l(0, 3, 5), l(2, 3), l(0, 2, 5)},
		{nil, l(4), l(4)},
		{l(4), nil, l(4)},
		{l(0, 1, 2), l(3, 4, 5), l(0, 1, 2, 3, 4, 5)},
	} {
		become(t, 1, flip(flip(x, c.first...), c.second...), flip(x, c.both...))
	}
	become(t, 2, flip(flip(x, 0), 0), x)
	become(t, 2, flip(flip(x, 0, 1, 5), 0, 1, 5), x)
	become(t, 1, flip(flip(x, 0, 5), 0, 5), flip(x))
	stayTwo(t, flip(flip(x, 0), 1), flip(x, 0))
	stayTwo(t, flip(flip(x, 0), 1), x)
	wantForms(t, giving(flip(flip(x, 0), 1)), 3, 4, 4)
	y, z := par(0, 2, 2), par(1, 2, 2)
	wantForms(t, giving(flip(add(y, z), 0)), 4, 5, 5, 5)
	wantForms(t, giving(flip(mul(y, z), 0)), 4, 5, 5, 5)
	stayTwo(t, flip(add(y, z), 0), add(flip(y, 0), flip(z, 0)))
}

func TestL3Reforms(t *testing.T) {
	x := par(0, 3, 2)
	become(t, 1, reform(reform(x, 6), 2, 3), reform(x, 2, 3))
	become(t, 1, reform(reform(x, 3, 2), 2, 3), reform(x, 2, 3))
	become(t, 2, reform(reform(x, 6), 3, 2), x)
	become(t, 1, reform(reform(x, 6), 3, 2), reform(x, 3, 2))
	wantForms(t, giving(reform(reform(x, 6), 2, 3)), 3, 4, 4)
	wantForms(t, giving(reform(x, 6)), 2, 2, 2)
	become(t, 2, reform(reform(par(0, 0, 3), 0), 0, 3), par(0, 0, 3))
	become(t, 1, reform(reform(par(0, 0, 3), 0), 4096, 4096, 0), reform(par(0, 0, 3), 4096, 4096, 0))
	become(t, 2, reform(reform(par(0), 1, 1), nil...), par(0))
	y := par(1, 3, 2)
	wantForms(t, giving(reform(add(x, y), 6)), 4, 5, 5, 5)
	wantForms(t, giving(reform(mul(x, y), 6)), 4, 5, 5, 5)
	stayTwo(t, reform(add(x, y), 6), add(reform(x, 6), reform(y, 6)))
	stayTwo(t, reform(flip(reform(x, 6), 0), 3, 2), x)
}

func TestL3TurnOfTwo(t *testing.T) {
	x, y := par(0, 2, 2), par(1, 2, 2)
	for _, kind := range l(api.Add, api.Mul) {
		become(t, 1, turn(same(kind, x, y), 1, 0), same(kind, turn(x, 1, 0), turn(y, 1, 0)))
		become(t, 1, turn(same(kind, x, x), 1, 0), same(kind, turn(x, 1, 0), turn(x, 1, 0)))
		become(t, 1, turn(same(kind, x, y), 0, 1), same(kind, turn(x, 0, 1), turn(y, 0, 1)))
		wantForms(t, giving(turn(same(kind, x, y), 1, 0)), 4, 8)
		stayTwo(t, turn(same(kind, x, y), 1, 0), same(kind, turn(x, 1, 0), y))
	}
	become(t, 1, turn(add(par(0, 2, 3, 4), par(1, 2, 3, 4)), 2, 0, 1), add(turn(par(0, 2, 3, 4), 2, 0, 1), turn(par(1, 2, 3, 4), 2, 0, 1)))
	for _, kind := range l(api.Max, api.Less) {
		stayTwo(t, turn(same(kind, x, y), 1, 0), same(kind, turn(x, 1, 0), turn(y, 1, 0)))
	}
	wantForms(t, giving(turn(most(x, y), 1, 0)), 4, 5, 5, 5)
	wantForms(t, giving(turn(sub(x, y), 1, 0)), 4, 7)
	become(t, 2, turn(sub(x, y), 1, 0), add(turn(x, 1, 0), turn(mul(fill(-1, 2, 2), y), 1, 0)))
}

func TestL3Products(t *testing.T) {
	x, y, z, u := matrices()
	become(t, 1, dot(dot(x, y), z), dot(x, dot(y, z)))
	become(t, 1, dot(dot(par(0, 2, 3), par(1, 3, 4)), par(2, 4, 5)), dot(par(0, 2, 3), dot(par(1, 3, 4), par(2, 4, 5))))
	become(t, 1, dot(dot(par(0, 0, 3), par(1, 3, 4)), par(2, 4, 0)), dot(par(0, 0, 3), dot(par(1, 3, 4), par(2, 4, 0))))
	become(t, 2, dot(dot(dot(x, y), z), u), dot(x, dot(y, dot(z, u))))
	become(t, 1, dot(dot(x, x), x), dot(x, dot(x, x)))
	stayTwo(t, dot(dot(x, y), z), dot(x, dot(z, y)))
	wantForms(t, giving(dot(dot(x, y), z)), 5, 7, 7, 7)
	wantForms(t, giving(dot(x, dot(y, z))), 5, 5, 5, 5)
	become(t, 1, dot(dot(x, y), z), dot(x, dot(y, z)))
	stayTwo(t, dot(add(x, y), z), add(dot(x, z), dot(y, z)))
}

func TestL3NoProductsOfMatrices(t *testing.T) {
	x, y, z, _ := matrices()
	of := func(op api.Op) func(a, b term) term {
		op.Kind = api.Dot
		return func(a, b term) term { return on(op, a, b) }
	}
	for _, other := range []func(a, b term) term{
		of(api.Op{At: l(0), Step: l(1)}),
		of(api.Op{At: l(0), Step: l(0)}),
		of(api.Op{At: l(1), Step: l(1)}),
		of(api.Op{At: l(1), Step: l(0), Lo: l(0), Hi: l(1)}),
		of(api.Op{Lo: l(1), Hi: l(0)}),
	} {
		// What is made of two may be no matrix: then it is made one, so that the next fits.
		flat := func(a term) term {
			switch rank := len(dimsOf(a)); rank {
			case 1:
				return spread(a, l(2, 2), 0)
			case 3:
				return sum(a, 2)
			}
			return a
		}
		for _, both := range []term{other(flat(other(x, y)), z), dot(flat(other(x, y)), z), other(dot(x, y), z)} {
			many := len(giving(both).Nodes)
			wantForms(t, giving(both), many, many, many)
		}
	}
	// The outer product of one has more dimensions, or one alone.
	for _, c := range [][3][]int{
		{l(2, 2), l(2, 2), l(2, 2, 2)},
		{l(2, 2), l(2, 2, 2), l(2, 2)},
		{l(2, 2, 2), l(2, 2), l(2, 2)},
		{l(2, 2), l(2, 2), l(2)},
		{l(2, 2, 2), l(2), l(2, 2)},
		{l(2, 2, 2), l(2), l(2)},
	} {
		both := dot(dot(par(0, c[0]...), par(1, c[1]...)), par(2, c[2]...))
		wantForms(t, giving(both), 5, 5, 5, 5)
	}
}

// What would stand between is no array: then it is no form.
func TestL3GreatProducts(t *testing.T) {
	chain := func(a, b, c, d int) term { return dot(dot(par(0, a, b), par(1, b, c)), par(2, c, d)) }
	moved := func(a, b, c, d int) term { return dot(par(0, a, b), dot(par(1, b, c), par(2, c, d))) }
	for _, between := range l(0, 1, 2) {
		become(t, 1, chain(1, 4096, between, 16), moved(1, 4096, between, 16))
		become(t, 1, chain(16, 16, between, 4096), moved(16, 16, between, 4096))
		become(t, 1, chain(2, 256, between, 256), moved(2, 256, between, 256))
		become(t, 1, chain(0, 0, between, 4096), moved(0, 0, between, 4096))
		for _, g := range []api.Graph{giving(chain(1, 4096, between, 17)), giving(chain(15, 17, between, 4096)), giving(chain(2, 256, between, 257)), giving(chain(0, 4096, between, 4096))} {
			wantForms(t, g, 5, 5, 5, 5, 5)
			wantClasses(t, g, 4, 0, 1, 2, 3, 4)
		}
	}
}
