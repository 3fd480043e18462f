package order_test

import (
	"fmt"
	"slices"
	"testing"

	"adjoint/api"
	"adjoint/nest"
	"adjoint/order"
)

// set is a right statement at points of so many numbers.
func set(numbers int) api.Stmt {
	return do(api.DoSet, in(slices.Repeat(l(2), numbers)), at(0, 0, make([]int, numbers)...))
}

// sets are right statements at points of so many numbers each.
func sets(numbers ...int) []api.Stmt {
	var out []api.Stmt
	for _, n := range numbers {
		out = append(out, set(n))
	}
	return out
}

// O2: nothing is wrong with times of any lengths, nor with those of a nest without statements.
func TestO2Right(t *testing.T) {
	wantWrong(t, over(nil), nil, api.OK)
	wantWrong(t, over(l(3, 0)), api.Times{}, api.OK)
	for numbers := range 5 {
		n := over(l(3), set(numbers))
		for many := range 9 {
			wantWrong(t, n, api.Times{slices.Repeat(rows(row(7, make([]int, numbers)...)), many)}, api.OK)
		}
	}
	n := over(l(3), sets(0, 1, 4, 2)...)
	wantWrong(t, n, together(4), api.OK)
	wantWrong(t, n, api.Times{nil, rows(row(1, 2), row(-3, -4)), rows(), rows(row(0, 1, -1))}, api.OK)
	wantWrong(t, n, api.Times{rows(row(9)), rows(row(1, 2)), rows(row(0, 0, 0, 0, 0)), rows(row(0, 1, -1))}, api.OK)
}

// O2: times have a list for each statement.
func TestO2HowManyLists(t *testing.T) {
	for many := range 4 {
		n := over(l(3), slices.Repeat(sets(1), many)...)
		for lists := range 7 {
			want := api.ErrMany
			if lists == many {
				want = api.OK
			}
			wantWrong(t, n, together(lists), want)
			wantWrong(t, n, slices.Repeat(api.Times{rows(row(0, 1))}, lists), want)
		}
	}
	full := over(l(3), slices.Repeat(sets(0), 256)...)
	wantWrong(t, full, together(256), api.OK)
	wantWrong(t, full, together(255), api.ErrMany)
	wantWrong(t, full, together(257), api.ErrMany)
}

// O2: a list has at most MaxRows rows.
func TestO2HowManyRows(t *testing.T) {
	n := over(l(3), sets(1, 1, 1)...)
	for k := range 3 {
		for _, many := range l(7, 8) {
			times := together(3)
			times[k] = slices.Repeat(rows(row(1, 1)), many)
			wantWrong(t, n, times, api.OK)
		}
		for _, many := range l(9, 10, 1000) {
			times := together(3)
			times[k] = slices.Repeat(rows(row(1, 1)), many)
			wantWrong(t, n, times, api.ErrMany)
			// Rows that are not right come later.
			times[k][0] = row(far + 1)
			wantWrong(t, n, times, api.ErrMany)
		}
	}
}

// O2: each row is right over the numbers of its statement's points.
func TestO2Rows(t *testing.T) {
	for numbers := range 5 {
		n := over(l(3), sets(2, numbers, 1)...)
		fine := row(5, make([]int, numbers)...)
		for place := range 4 {
			at := func(bad api.Row) api.Times {
				list := slices.Repeat(rows(fine), 4)
				list[place] = bad
				return api.Times{rows(row(1, 2, 3)), list, nil}
			}
			for coefs := range 7 {
				want := api.ErrShape
				if coefs == numbers {
					want = api.OK
				}
				wantWrong(t, n, at(row(0, make([]int, coefs)...)), want)
			}
			for _, n1 := range l(-far, 1-far, -1, 0, far-1, far) {
				wantWrong(t, n, at(row(n1, slices.Repeat(l(n1), numbers)...)), api.OK)
			}
			for _, n1 := range l(least, -1<<32, -far-1, far+1, 1<<32, most) {
				wantWrong(t, n, at(row(n1, make([]int, numbers)...)), api.ErrRange)
				wantWrong(t, n, at(row(n1, make([]int, numbers+1)...)), api.ErrShape)
				for k := range numbers {
					r := row(0, make([]int, numbers)...)
					r.Coef[k] = n1
					wantWrong(t, n, at(r), api.ErrRange)
				}
			}
		}
	}
}

// O2: of several rows that are not right the first one is told; of several lists too.
func TestO2WhichFirst(t *testing.T) {
	n := over(l(3), sets(1, 2)...)
	short, great := row(0), row(far+1, 1)
	much := slices.Repeat(rows(row(0, 0, 0)), 9)
	for _, c := range []struct {
		times api.Times
		want  api.Errno
	}{
		{api.Times{rows(short, great), nil}, api.ErrShape}, {api.Times{rows(great, short), nil}, api.ErrRange}, {api.Times{rows(row(0, 1), great, short), nil}, api.ErrRange},
		{api.Times{rows(short), much}, api.ErrShape}, {api.Times{rows(great), much}, api.ErrRange}, {api.Times{nil, much}, api.ErrMany}, {api.Times{much, rows(great)}, api.ErrMany},
		{api.Times{rows(great), rows(short)}, api.ErrRange}, {api.Times{rows(short), rows(row(far+1, 0, 0))}, api.ErrShape}, {api.Times{nil, rows(row(0, 1))}, api.ErrShape},
		{api.Times{rows(short), rows(short), rows(great)}, api.ErrMany}, {api.Times{rows(short)}, api.ErrMany},
	} {
		wantWrong(t, n, c.times, c.want)
	}
}

// O2, E4: of all that is wrong the first one is told, however it is put together: first of the nest, then of times.
func TestE4WhichErrorFirst(t *testing.T) {
	steps := []struct {
		want  api.Errno
		spoil func(n *api.Nest, times *api.Times)
	}{
		{api.ErrMany, func(n *api.Nest, _ *api.Times) { n.Stmts = append(n.Stmts, make([]api.Stmt, 256)...) }},
		{api.ErrRange, func(n *api.Nest, _ *api.Times) { n.Sizes[0] = 65537 }},
		{api.ErrMuch, func(n *api.Nest, _ *api.Times) { n.Stmts[0].Over.Box = l(4096, 2) }},
		{api.ErrKind, func(n *api.Nest, _ *api.Times) { n.Stmts[0].Do = 0 }},
		{api.ErrShape, func(n *api.Nest, _ *api.Times) { n.Stmts[1].Put.At.Coef = l(1) }},
		{api.ErrMany, func(_ *api.Nest, times *api.Times) { *times = append(*times, nil) }},
		{api.ErrMany, func(_ *api.Nest, times *api.Times) { (*times)[0] = slices.Repeat((*times)[0], 4) }},
		{api.ErrShape, func(_ *api.Nest, times *api.Times) { (*times)[0][1].Coef = l(1) }},
		{api.ErrRange, func(_ *api.Nest, times *api.Times) { (*times)[0][2].Const = -far - 1 }},
		{api.ErrMany, func(_ *api.Nest, times *api.Times) { (*times)[1] = slices.Repeat((*times)[1], 9) }},
		{api.ErrRange, func(_ *api.Nest, times *api.Times) { (*times)[1][0].Const = far + 1 }},
	}
	for picked := range 1 << len(steps) {
		n := over(l(3), sets(2, 0)...)
		times := api.Times{rows(row(0, 0, 0), row(0, 1, 0), row(0, 0, 1)), rows(row(1))}
		want := api.OK
		for k := range steps {
			if picked>>k&1 == 1 {
				steps[k].spoil(&n, &times)
				if want == api.OK {
					want = steps[k].want
				}
			}
		}
		if got := order.Wrong(n, times); got != want {
			t.Fatalf("%s at %v: %d comes, not %d", cut(show(n)), times, got, want)
		}
		if want != api.OK {
			wantNoPairs(t, n, times, want)
			wantNoRun(t, n, times, nil, want)
		}
	}
}

// O2: Plain of statements with no numbers, with some, and with as many as there may be.
func TestO2Plain(t *testing.T) {
	want := func(n api.Nest, want api.Times) {
		t.Helper()
		if got := order.Plain(n); fmt.Sprint(got) != fmt.Sprint(want) {
			t.Errorf("%s: %v comes, not %v", cut(show(n)), got, want)
		}
	}
	want(over(nil), nil)
	want(over(l(3), sets(0)...), api.Times{rows(row(0))})
	want(over(l(3), sets(1, 0, 4, 2)...), api.Times{
		rows(row(0, 0), row(0, 1)),
		rows(row(1)),
		rows(row(2, 0, 0, 0, 0), row(0, 1, 0, 0, 0), row(0, 0, 1, 0, 0), row(0, 0, 0, 1, 0), row(0, 0, 0, 0, 1)),
		rows(row(3, 0, 0), row(0, 1, 0), row(0, 0, 1)),
	})
	var all api.Times
	for k := range 256 {
		all = append(all, rows(row(k, 0), row(0, 1)))
	}
	want(over(l(3), slices.Repeat(sets(1), 256)...), all)
}

// O2: at the times of Plain all is done as it stands, and no two have one time.
func TestO2PlainDoesAsItStands(t *testing.T) {
	d := thrown(1)
	for range 300 {
		n := d.nest()
		plain := order.Plain(n)
		if got := order.Wrong(n, plain); got != api.OK {
			t.Fatalf("%s: %v is wrong: %d", show(n), plain, got)
		}
		wantNoPairs(t, n, plain, api.OK)
		given := d.given(n)
		want, _ := nest.Run(n, given)
		wantRun(t, n, plain, given, nil, want...)
		wantRun(t, n, plain, given, d.mix(), want...)
		spots := spotsByHand(n)
		for k := 1; k < len(spots); k++ {
			if slices.Compare(timeByHand(plain, spots[k-1]), timeByHand(plain, spots[k])) >= 0 {
				t.Fatalf("%s: %v has not a lesser time than %v", show(n), spots[k-1], spots[k])
			}
		}
	}
}

// O2: of a wrong nest there come as many lists as statements, however great its boxes are.
func TestO2PlainOfWrongNests(t *testing.T) {
	for _, n := range []api.Nest{
		over(nil, set(1)), over(l(-1), sets(1, 2, 3)...), over(l(3), make([]api.Stmt, 257)...),
		over(l(3), set(0), do(api.DoSet, in(make([]int, 100000)), at(0, 0)), set(1)),
		over(l(3), do(77, in(l(most, least)), at(0, 0))),
	} {
		if got := order.Plain(n); len(got) != len(n.Stmts) {
			t.Errorf("%s: %d lists come, not %d", cut(show(n)), len(got), len(n.Stmts))
		}
	}
}
