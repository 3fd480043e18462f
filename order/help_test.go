package order_test

import (
	"fmt"
	"math"
	"math/rand/v2"
	"slices"
	"strings"
	"testing"

	"adjoint/api"
	"adjoint/nest"
	"adjoint/order"
)

const (
	far   = 1 << 20 // the greatest Coef
	most  = math.MaxInt
	least = math.MinInt
	top   = math.MaxInt64
	low   = math.MinInt64
)

// l is a list.
func l(numbers ...int) []int { return numbers }

// w are numbers of an array.
func w(numbers ...int64) []int64 { return numbers }

// mem are the numbers of arrays.
func mem(arrays ...[]int64) [][]int64 { return arrays }

// row is a row.
func row(constant int, coefs ...int) api.Row { return api.Row{Coef: coefs, Const: constant} }

// rows are the rows of one statement's times.
func rows(all ...api.Row) []api.Row { return all }

// in are the points of a box above rows.
func in(box []int, rows ...api.Row) api.Points { return api.Points{Box: box, Rows: rows} }

// at is an access.
func at(array, constant int, coefs ...int) api.Access {
	return api.Access{Array: array, At: row(constant, coefs...)}
}

// do is a statement.
func do(what int, over api.Points, put api.Access, get ...api.Access) api.Stmt {
	return api.Stmt{Over: over, Do: what, Put: put, Get: get}
}

// once is a statement at one point without numbers, that puts into one place and gets from others, of array 0.
func once(what, put int, gets ...int) api.Stmt {
	s := api.Stmt{Do: what, Value: 5, Put: at(0, put)}
	for _, from := range gets {
		s.Get = append(s.Get, at(0, from))
	}
	return s
}

// over is a nest.
func over(sizes []int, stmts ...api.Stmt) api.Nest { return api.Nest{Sizes: sizes, Stmts: stmts} }

// spot is a statement at a point.
func spot(stmt int, x ...int) api.Spot { return api.Spot{Stmt: stmt, At: x} }

// pair is what is found.
func pair(a, b api.Spot) api.Found { return api.Found{Any: true, A: a, B: b} }

// turns are times of as many statements as there are numbers: each has its turn at that number.
func turns(numbers ...int) api.Times {
	var out api.Times
	for _, n := range numbers {
		out = append(out, rows(row(n)))
	}
	return out
}

// together are times of so many statements that all have one time.
func together(stmts int) api.Times { return make(api.Times, stmts) }

// many are how many numbers each kind of statement gets, as N1's table has them.
func many(what int) int {
	return map[int]int{api.DoSet: 0, api.DoCopy: 1, api.DoAdd: 2, api.DoSub: 2, api.DoMul: 2, api.DoMax: 2, api.DoLess: 2, api.DoPick: 3, api.DoMore: 1, api.DoMac: 2}[what]
}

// all are all kinds of statements.
func all() []int {
	return l(api.DoSet, api.DoCopy, api.DoAdd, api.DoSub, api.DoMul, api.DoMax, api.DoLess, api.DoPick, api.DoMore, api.DoMac)
}

// number is a row's number.
func number(r api.Row, x []int) int {
	n := r.Const
	for k := range x {
		n += r.Coef[k] * x[k]
	}
	return n
}

// pointsByHand are all points by the words of I2, in order.
func pointsByHand(p api.Points) [][]int {
	if slices.Contains(p.Box, 0) {
		return nil
	}
	all := [][]int{{}}
	for _, end := range p.Box {
		var longer [][]int
		for _, x := range all {
			for n := range end {
				longer = append(longer, append(slices.Clone(x), n))
			}
		}
		all = longer
	}
	return slices.DeleteFunc(all, func(x []int) bool {
		return slices.ContainsFunc(p.Rows, func(r api.Row) bool { return number(r, x) < 0 })
	})
}

// spotsByHand are all spots, as they stand.
func spotsByHand(n api.Nest) []api.Spot {
	var out []api.Spot
	for k, s := range n.Stmts {
		for _, x := range pointsByHand(s.Over) {
			out = append(out, spot(k, x...))
		}
	}
	return out
}

// timeByHand is the time of a spot, by the words of O1.
func timeByHand(times api.Times, s api.Spot) []int {
	var out []int
	for _, r := range times[s.Stmt] {
		out = append(out, number(r, s.At))
	}
	for _, rows := range times {
		for len(out) < len(rows) {
			out = append(out, 0)
		}
	}
	return out
}

// where is the array and the place to which an access leads; false: it is outside.
func where(n api.Nest, a api.Access, x []int) ([2]int, bool) {
	place := number(a.At, x)
	return [2]int{a.Array, place}, 0 <= place && place < n.Sizes[a.Array]
}

// inTheWay tells whether two spots are in each other's way, by the words of O3.
func inTheWay(n api.Nest, a, b api.Spot) bool {
	s, t := n.Stmts[a.Stmt], n.Stmts[b.Stmt]
	toA, insideA := where(n, s.Put, a.At)
	toB, insideB := where(n, t.Put, b.At)
	if !insideA || !insideB {
		return false
	}
	gathers := func(s api.Stmt) bool { return s.Do == api.DoMore || s.Do == api.DoMac }
	if toA == toB && !(gathers(s) && gathers(t)) {
		return true
	}
	getsFrom := func(s api.Stmt, x []int, to [2]int) bool {
		return slices.ContainsFunc(s.Get, func(g api.Access) bool {
			from, inside := where(n, g, x)
			return inside && from == to
		})
	}
	return getsFrom(s, a.At, toB) || getsFrom(t, b.At, toA)
}

// foundByHand is the pair that O4 asks for: of all pairs in each other's way, whose times compare so.
func foundByHand(n api.Nest, times api.Times, so func(byTime int) bool) api.Found {
	spots := spotsByHand(n)
	for k, b := range spots {
		for _, a := range spots[:k] {
			if inTheWay(n, a, b) && so(slices.Compare(timeByHand(times, a), timeByHand(times, b))) {
				return pair(a, b)
			}
		}
	}
	return api.Found{}
}

// legalByHand and freeByHand are what Legal and Free find.
func legalByHand(n api.Nest, times api.Times) api.Found {
	return foundByHand(n, times, func(byTime int) bool { return byTime > 0 })
}

func freeByHand(n api.Nest, times api.Times) api.Found {
	return foundByHand(n, times, func(byTime int) bool { return byTime == 0 })
}

// doneAt are the arrays when one spot was done: the nest has its statement alone, with rows that leave its point alone.
func doneAt(n api.Nest, s api.Spot, given [][]int64) [][]int64 {
	only := n.Stmts[s.Stmt]
	only.Over = in(only.Over.Box)
	for k, x := range s.At {
		up, down := row(-x, make([]int, len(s.At))...), row(x, make([]int, len(s.At))...)
		up.Coef[k], down.Coef[k] = 1, -1
		only.Over.Rows = append(only.Over.Rows, up, down)
	}
	out, err := nest.Run(over(n.Sizes, only), given)
	if err != api.OK {
		panic(fmt.Sprint(show(n), " at ", s, ": ", err))
	}
	return out
}

// turnsByHand are the spots in the order in which Run does them, by the words of O5.
func turnsByHand(n api.Nest, times api.Times, mix []int) []api.Spot {
	left := spotsByHand(n)
	var out []api.Spot
	for len(left) > 0 {
		now := timeByHand(times, slices.MinFunc(left, func(a, b api.Spot) int {
			return slices.Compare(timeByHand(times, a), timeByHand(times, b))
		}))
		var at []int
		for k, s := range left {
			if slices.Equal(timeByHand(times, s), now) {
				at = append(at, k)
			}
		}
		pick := 0
		if len(mix) > 0 {
			pick = mix[len(out)%len(mix)] % len(at)
			if pick < 0 {
				pick += len(at)
			}
		}
		out = append(out, left[at[pick]])
		left = slices.Delete(left, at[pick], at[pick]+1)
	}
	return out
}

// runByHand is Run of what nothing is wrong with.
func runByHand(n api.Nest, times api.Times, given [][]int64, mix []int) [][]int64 {
	for _, s := range turnsByHand(n, times, mix) {
		given = doneAt(n, s, given)
	}
	return given
}

// same tells whether arrays have the same numbers.
func same(a, b [][]int64) bool { return slices.EqualFunc(a, b, slices.Equal[[]int64]) }

// cut is the beginning of what may be very long.
func cut(s string) string {
	if len(s) > 1500 {
		return fmt.Sprintf("%.1500s.. (%d bytes)", s, len(s))
	}
	return s
}

// show tells a nest, each list with its numbers alone: nil and empty are told alike.
func show(n api.Nest) string {
	lines := []string{fmt.Sprint("sizes", n.Sizes)}
	for _, s := range n.Stmts {
		lines = append(lines, fmt.Sprintf("do %d (%d) over%d above%d puts%d gets%d", s.Do, s.Value, s.Over.Box, s.Over.Rows, s.Put, s.Get))
	}
	return strings.Join(lines, "; ")
}

// wantPairs: Legal and Free find these.
func wantPairs(t *testing.T, n api.Nest, times api.Times, legal, free api.Found) {
	t.Helper()
	if got, err := order.Legal(n, times); err != api.OK || fmt.Sprint(got) != fmt.Sprint(legal) {
		t.Errorf("%s at %v: Legal tells %v, %d, not %v", cut(show(n)), cut(fmt.Sprint(times)), got, err, legal)
	}
	if got, err := order.Free(n, times); err != api.OK || fmt.Sprint(got) != fmt.Sprint(free) {
		t.Errorf("%s at %v: Free tells %v, %d, not %v", cut(show(n)), cut(fmt.Sprint(times)), got, err, free)
	}
}

// nothing tells whether nothing was found.
func nothing(f api.Found) bool {
	return !f.Any && f.A.Stmt == 0 && f.B.Stmt == 0 && len(f.A.At) == 0 && len(f.B.At) == 0
}

// wantNoPairs: Legal and Free tell this, and nothing else. (OK: there is no pair.)
func wantNoPairs(t *testing.T, n api.Nest, times api.Times, want api.Errno) {
	t.Helper()
	if got, err := order.Legal(n, times); err != want || !nothing(got) {
		t.Errorf("%s at %v: Legal tells %v, %d, not %d", cut(show(n)), cut(fmt.Sprint(times)), got, err, want)
	}
	if got, err := order.Free(n, times); err != want || !nothing(got) {
		t.Errorf("%s at %v: Free tells %v, %d, not %d", cut(show(n)), cut(fmt.Sprint(times)), got, err, want)
	}
}

// wantRun: these are the arrays when all is done.
func wantRun(t *testing.T, n api.Nest, times api.Times, given [][]int64, mix []int, want ...[]int64) {
	t.Helper()
	if got, err := order.Run(n, times, given, mix); err != api.OK || !same(got, want) {
		t.Errorf("%s at %v of %s mixed by %d: %s, %d comes, not %s", cut(show(n)), cut(fmt.Sprint(times)), cut(fmt.Sprint(given)), mix, cut(fmt.Sprint(got)), err, cut(fmt.Sprint(want)))
	}
}

// wantNoRun: Run tells this error, and nothing else.
func wantNoRun(t *testing.T, n api.Nest, times api.Times, given [][]int64, want api.Errno) {
	t.Helper()
	for _, mix := range [][]int{nil, l(0), l(-1, 2, 3)} {
		if got, err := order.Run(n, times, given, mix); err != want || len(got) > 0 {
			t.Errorf("%s at %v: %s, %d comes, not %d", cut(show(n)), cut(fmt.Sprint(times)), cut(fmt.Sprint(got)), err, want)
		}
	}
}

// fitting are arrays of noughts as large as a nest has them.
func fitting(n api.Nest) [][]int64 {
	var out [][]int64
	for _, size := range n.Sizes {
		out = append(out, make([]int64, min(max(size, 0), 1<<17)))
	}
	return out
}

// wantWrong: this is wrong with a nest and times, and Legal, Free and Run tell it too. (OK: nothing is, and there are at most MaxSpots spots.)
func wantWrong(t *testing.T, n api.Nest, times api.Times, want api.Errno) {
	t.Helper()
	if got := order.Wrong(n, times); got != want {
		t.Errorf("%s at %v: Wrong tells %d, not %d", cut(show(n)), cut(fmt.Sprint(times)), got, want)
	}
	if want != api.OK {
		wantNoPairs(t, n, times, want)
		for _, given := range [][][]int64{nil, fitting(n), append(fitting(n), nil), mem(w(1, 2, 3))} {
			wantNoRun(t, n, times, given, want)
		}
		return
	}
	_, errLegal := order.Legal(n, times)
	_, errFree := order.Free(n, times)
	got, errRun := order.Run(n, times, fitting(n), nil)
	if errLegal != api.OK || errFree != api.OK || errRun != api.OK || len(got) != len(n.Sizes) {
		t.Errorf("%s at %v: Legal, Free and Run tell %d, %d, %d", cut(show(n)), cut(fmt.Sprint(times)), errLegal, errFree, errRun)
	}
}

// wantStrip: this nest comes.
func wantStrip(t *testing.T, n api.Nest, stmt, k, size int, want api.Nest) {
	t.Helper()
	if got, err := order.Strip(n, stmt, k, size); err != api.OK || show(got) != show(want) {
		t.Errorf("%s, %d, %d, %d: %s, %d comes, not %s", cut(show(n)), stmt, k, size, cut(show(got)), err, cut(show(want)))
	}
}

// wantNoStrip: Strip tells this error, and nothing else.
func wantNoStrip(t *testing.T, n api.Nest, stmt, k, size int, want api.Errno) {
	t.Helper()
	if got, err := order.Strip(n, stmt, k, size); err != want || len(got.Sizes) > 0 || len(got.Stmts) > 0 {
		t.Errorf("%s, %d, %d, %d: %s, %d comes, not %d", cut(show(n)), stmt, k, size, cut(show(got)), err, want)
	}
}

// dice are thrown the same way each time.
type dice struct{ *rand.Rand }

func thrown(seed uint64) dice { return dice{rand.New(rand.NewPCG(11, seed))} }

func (d dice) of(all ...int) int { return all[d.IntN(len(all))] }

// numbers are so many, small or any.
func (d dice) numbers(many int) []int64 {
	out := make([]int64, many)
	for k := range out {
		out[k] = int64(d.IntN(9)) - 4
		if d.IntN(3) == 0 {
			out[k] = int64(d.Uint64())
		}
	}
	return out
}

// given are arrays as a nest has them, with anything in them.
func (d dice) given(n api.Nest) [][]int64 {
	out := make([][]int64, len(n.Sizes))
	for k, size := range n.Sizes {
		out[k] = d.numbers(size)
	}
	return out
}

// row is one over so many numbers.
func (d dice) row(numbers int) api.Row {
	r := row(d.of(-1, 0, 0, 0, 1, 2), make([]int, numbers)...)
	for k := range r.Coef {
		r.Coef[k] = d.of(-1, 0, 0, 1, 1, 2)
	}
	return r
}

// stmt is a right statement over so many arrays.
func (d dice) stmt(arrays int) api.Stmt {
	s := api.Stmt{Do: d.of(append(all(), api.DoMore, api.DoMac, api.DoSet)...), Value: d.numbers(1)[0]}
	for range d.IntN(4) {
		s.Over.Box = append(s.Over.Box, d.of(0, 1, 2, 2, 2, 3, 3, 3))
	}
	numbers := len(s.Over.Box)
	for range d.of(0, 0, 0, 1) {
		s.Over.Rows = append(s.Over.Rows, d.row(numbers))
	}
	s.Put = api.Access{Array: d.IntN(arrays), At: d.row(numbers)}
	for range many(s.Do) {
		s.Get = append(s.Get, api.Access{Array: d.IntN(arrays), At: d.row(numbers)})
	}
	return s
}

// nest is a right one.
func (d dice) nest() api.Nest {
	var n api.Nest
	for range 1 + d.IntN(3) {
		n.Sizes = append(n.Sizes, d.of(0, 1, 2, 3, 4, 4, 8))
	}
	for range d.of(0, 1, 2, 2, 3, 3, 4) {
		n.Stmts = append(n.Stmts, d.stmt(len(n.Sizes)))
	}
	return n
}

// times are right ones for a nest: any, or nearly those at which all stands as it does.
func (d dice) times(n api.Nest) api.Times {
	out := make(api.Times, len(n.Stmts))
	for k, s := range n.Stmts {
		numbers := len(s.Over.Box)
		if d.IntN(2) == 0 {
			out[k] = plainByHand(k, numbers)
			if d.IntN(2) == 0 {
				out[k] = out[k][:d.IntN(len(out[k])+1)]
			}
			continue
		}
		for range d.of(0, 1, 1, 2, 3) {
			out[k] = append(out[k], d.row(numbers))
		}
	}
	return out
}

// plainByHand are the rows of Plain for a statement, by the words of O2.
func plainByHand(stmt, numbers int) []api.Row {
	none := make([]int, numbers)
	out := rows(row(stmt, none...))
	for k := range numbers {
		own := slices.Clone(none)
		own[k] = 1
		out = append(out, row(0, own...))
	}
	return out
}

// mix is any.
func (d dice) mix() []int {
	out := make([]int, d.of(0, 1, 1, 2, 3, 7, 50))
	for k := range out {
		out[k] = d.of(0, 1, 2, 3, 5, -1, -2, -7, least, most, int(d.Uint64()))
	}
	return out
}
