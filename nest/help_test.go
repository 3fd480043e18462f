package nest_test

import (
	"fmt"
	"math"
	"math/big"
	"math/rand/v2"
	"slices"
	"strings"
	"testing"

	"adjoint/api"
	"adjoint/nest"
)

const (
	far   = 1 << 20 // the greatest Coef
	most  = math.MaxInt
	least = math.MinInt
	top   = math.MaxInt64
	low   = math.MinInt64
)

// l is a list.
func l(numbers ...int) []int { return numbers }

// w are numbers of an array.
func w(numbers ...int64) []int64 { return numbers }

// mem are the numbers of arrays.
func mem(arrays ...[]int64) [][]int64 { return arrays }

// row is a row.
func row(constant int, coefs ...int) api.Row { return api.Row{Coef: coefs, Const: constant} }

// in are the points of a box above rows.
func in(box []int, rows ...api.Row) api.Points { return api.Points{Box: box, Rows: rows} }

// at is an access.
func at(array, constant int, coefs ...int) api.Access {
	return api.Access{Array: array, At: row(constant, coefs...)}
}

// do is a statement.
func do(what int, over api.Points, put api.Access, get ...api.Access) api.Stmt {
	return api.Stmt{Over: over, Do: what, Put: put, Get: get}
}

// set is a statement that puts a number.
func set(value int64, over api.Points, put api.Access) api.Stmt {
	return api.Stmt{Over: over, Do: api.DoSet, Value: value, Put: put}
}

// over is a nest.
func over(sizes []int, stmts ...api.Stmt) api.Nest { return api.Nest{Sizes: sizes, Stmts: stmts} }

// many are how many numbers each kind of statement gets, as N1's table has them.
func many(what int) int {
	return map[int]int{api.DoSet: 0, api.DoCopy: 1, api.DoAdd: 2, api.DoSub: 2, api.DoMul: 2, api.DoMax: 2, api.DoLess: 2, api.DoPick: 3, api.DoMore: 1, api.DoMac: 2}[what]
}

// all are all kinds of statements.
func all() []int {
	return l(api.DoSet, api.DoCopy, api.DoAdd, api.DoSub, api.DoMul, api.DoMax, api.DoLess, api.DoPick, api.DoMore, api.DoMac)
}

// number is a row's number.
func number(r api.Row, x []int) int {
	n := r.Const
	for k := range x {
		n += r.Coef[k] * x[k]
	}
	return n
}

// byHand are all points by the words of I2, in order.
func byHand(p api.Points) [][]int {
	if slices.Contains(p.Box, 0) {
		return nil
	}
	all := [][]int{{}}
	for _, end := range p.Box {
		var longer [][]int
		for _, x := range all {
			for n := 0; n < end; n++ {
				longer = append(longer, append(slices.Clone(x), n))
			}
		}
		all = longer
	}
	return slices.DeleteFunc(all, func(x []int) bool {
		return slices.ContainsFunc(p.Rows, func(r api.Row) bool { return number(r, x) < 0 })
	})
}

// wrapped is a whole number modulo 2^64, from -2^63 to 2^63 - 1.
func wrapped(n *big.Int) int64 {
	n = new(big.Int).And(n, new(big.Int).SetUint64(math.MaxUint64))
	return int64(n.Uint64())
}

// putByHand is what a statement puts, by the words of N1, in numbers that have no end; v are what it gets.
func putByHand(s api.Stmt, there int64, v []int64) int64 {
	n, none := big.NewInt, new(big.Int)
	switch s.Do {
	case api.DoSet:
		return s.Value
	case api.DoCopy:
		return v[0]
	case api.DoAdd:
		return wrapped(none.Add(n(v[0]), n(v[1])))
	case api.DoSub:
		return wrapped(none.Sub(n(v[0]), n(v[1])))
	case api.DoMul:
		return wrapped(none.Mul(n(v[0]), n(v[1])))
	case api.DoMax:
		return slices.Max(v[:2])
	case api.DoLess:
		if n(v[0]).Cmp(n(v[1])) < 0 {
			return 1
		}
		return 0
	case api.DoPick:
		if v[0] != 0 {
			return v[1]
		}
		return v[2]
	case api.DoMore:
		return wrapped(none.Add(n(there), n(v[0])))
	}
	return wrapped(none.Add(n(there), new(big.Int).Mul(n(v[0]), n(v[1]))))
}

// runByHand is Run of what nothing is wrong with, by the words of N1 and N3.
func runByHand(n api.Nest, given [][]int64) [][]int64 {
	var out [][]int64
	for _, numbers := range given {
		out = append(out, slices.Clone(numbers))
	}
	inside := func(a api.Access, x []int) bool {
		place := number(a.At, x)
		return 0 <= place && place < n.Sizes[a.Array]
	}
	from := func(a api.Access, x []int) int64 {
		if !inside(a, x) {
			return 0
		}
		return out[a.Array][number(a.At, x)]
	}
	for _, s := range n.Stmts {
		for _, x := range byHand(s.Over) {
			var got []int64
			for _, a := range s.Get {
				got = append(got, from(a, x))
			}
			if inside(s.Put, x) {
				out[s.Put.Array][number(s.Put.At, x)] = putByHand(s, from(s.Put, x), got)
			}
		}
	}
	return out
}

// same tells whether arrays have the same numbers.
func same(a, b [][]int64) bool { return slices.EqualFunc(a, b, slices.Equal[[]int64]) }

// cut is the beginning of what may be very long.
func cut(s string) string {
	if len(s) > 1500 {
		return fmt.Sprintf("%.1500s.. (%d bytes)", s, len(s))
	}
	return s
}

// wantRun: these are the arrays when all is done.
func wantRun(t *testing.T, n api.Nest, given [][]int64, want ...[]int64) {
	t.Helper()
	if got, err := nest.Run(n, given); err != api.OK || !same(got, want) {
		t.Errorf("%s of %s: %s, %d comes, not %s", cut(fmt.Sprint(n)), cut(fmt.Sprint(given)), cut(fmt.Sprint(got)), err, cut(fmt.Sprint(want)))
	}
}

// wantNoRun: Run tells this error, and nothing else.
func wantNoRun(t *testing.T, n api.Nest, given [][]int64, want api.Errno) {
	t.Helper()
	if got, err := nest.Run(n, given); err != want || len(got) > 0 {
		t.Errorf("%s of %s: %s, %d comes, not %d", cut(fmt.Sprint(n)), cut(fmt.Sprint(given)), cut(fmt.Sprint(got)), err, want)
	}
}

// fitting are arrays of noughts as large as a nest has them.
func fitting(n api.Nest) [][]int64 {
	var out [][]int64
	for _, size := range n.Sizes {
		out = append(out, make([]int64, min(max(size, 0), 1<<17)))
	}
	return out
}

// wantWrong: this is wrong with a nest, and Run tells it too, whatever mem is. (OK: nothing is.)
func wantWrong(t *testing.T, n api.Nest, want api.Errno) {
	t.Helper()
	if got := nest.Wrong(n); got != want {
		t.Errorf("%s: Wrong tells %d, not %d", cut(fmt.Sprint(n)), got, want)
	}
	if want == api.OK {
		if got, err := nest.Run(n, fitting(n)); err != api.OK || len(got) != len(n.Sizes) {
			t.Errorf("%s: Run tells %d", cut(fmt.Sprint(n)), err)
		}
		return
	}
	for _, given := range [][][]int64{nil, fitting(n), append(fitting(n), nil), mem(w(1, 2, 3))} {
		wantNoRun(t, n, given, want)
	}
}

// dice are thrown the same way each time.
type dice struct{ *rand.Rand }

func thrown(seed uint64) dice { return dice{rand.New(rand.NewPCG(10, seed))} }

func (d dice) of(all ...int) int { return all[d.IntN(len(all))] }

// number is any number, small or as great as it can be.
func (d dice) number() int64 {
	switch d.IntN(4) {
	case 0:
		return int64(d.Uint64())
	case 1:
		return []int64{low, low + 1, -1 << 32, -1, 0, 1, 1 << 32, -3 << 61, top - 1, top}[d.IntN(10)]
	}
	return int64(d.IntN(9)) - 4
}

// numbers are so many of them.
func (d dice) numbers(many int) []int64 {
	out := make([]int64, many)
	for k := range out {
		out[k] = d.number()
	}
	return out
}

// row is one over so many numbers, small or, now and then, as great as it can be.
func (d dice) row(numbers int) api.Row {
	r := api.Row{Coef: make([]int, numbers), Const: d.IntN(9) - 3}
	for k := range r.Coef {
		r.Coef[k] = d.of(-3, -1, 0, 1, 1, 2, 3)
	}
	if d.IntN(12) == 0 {
		r.Const = d.of(-far, far)
	}
	if d.IntN(12) == 0 && numbers > 0 {
		r.Coef[d.IntN(numbers)] = d.of(-far, far)
	}
	return r
}

// stmt is a right statement over so many arrays.
func (d dice) stmt(arrays int) api.Stmt {
	s := api.Stmt{Do: all()[d.IntN(10)], Value: d.number()}
	for range d.IntN(5) {
		s.Over.Box = append(s.Over.Box, d.of(0, 1, 2, 3, 3, 4, 5))
	}
	numbers := len(s.Over.Box)
	for range d.of(0, 0, 1, 2) {
		s.Over.Rows = append(s.Over.Rows, d.row(numbers))
	}
	s.Put = api.Access{Array: d.IntN(arrays), At: d.row(numbers)}
	for range many(s.Do) {
		s.Get = append(s.Get, api.Access{Array: d.IntN(arrays), At: d.row(numbers)})
	}
	return s
}

// nest is a right one.
func (d dice) nest() api.Nest {
	var n api.Nest
	for range 1 + d.IntN(4) {
		n.Sizes = append(n.Sizes, d.of(0, 1, 2, 5, 9, 20))
	}
	for range d.IntN(6) {
		n.Stmts = append(n.Stmts, d.stmt(len(n.Sizes)))
	}
	return n
}

// show tells a nest, each list with its numbers alone: nil and empty are told alike.
func show(n api.Nest) string {
	lines := []string{fmt.Sprint("sizes", n.Sizes)}
	for _, s := range n.Stmts {
		lines = append(lines, fmt.Sprintf("do %d (%d) over%d above%d puts%d gets%d", s.Do, s.Value, s.Over.Box, s.Over.Rows, s.Put, s.Get))
	}
	return strings.Join(lines, "; ")
}
