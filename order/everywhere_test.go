package order_test

import (
	"fmt"
	"slices"
	"sync"
	"testing"

	"adjoint/api"
	"adjoint/nest"
	"adjoint/order"
)

// roomy is a list with room behind it, in which something stands.
func roomy[T any](list []T, with T) []T {
	return append(slices.Clone(list), with, with, with)[:len(list)]
}

// whole shows a list with the room behind it.
func whole[T any](list []T) string { return fmt.Sprint(list[:cap(list)]) }

// spoil writes over a list, its spare room too.
func spoil[T any](list []T, with T) {
	list = list[:cap(list)]
	for k := range list {
		list[k] = with
	}
}

// roomyRows are rows of which every list has room behind it.
func roomyRows(all []api.Row) []api.Row {
	out := roomy(all, row(-7))
	for k := range out {
		out[k].Coef = roomy(out[k].Coef, -7)
	}
	return out
}

// roomyNest is a nest of which every list has room behind it.
func roomyNest(n api.Nest) api.Nest {
	out := api.Nest{Sizes: roomy(n.Sizes, -7), Stmts: roomy(n.Stmts, api.Stmt{Do: -7})}
	for k := range out.Stmts {
		s := &out.Stmts[k]
		s.Over = in(roomy(s.Over.Box, -7), roomyRows(s.Over.Rows)...)
		s.Put.At.Coef = roomy(s.Put.At.Coef, -7)
		s.Get = roomy(s.Get, at(-7, -7))
		for i := range s.Get {
			s.Get[i].At.Coef = roomy(s.Get[i].At.Coef, -7)
		}
	}
	return out
}

// roomyTimes are times of which every list has room behind it.
func roomyTimes(times api.Times) api.Times {
	out := roomy(times, rows(row(-7)))
	for k := range out {
		out[k] = roomyRows(out[k])
	}
	return out
}

// coefs are the lists of rows.
func coefs(all []api.Row) [][]int {
	var out [][]int
	for _, r := range all {
		out = append(out, r.Coef)
	}
	return out
}

// numberLists are all lists of numbers in a nest.
func numberLists(n api.Nest) [][]int {
	out := [][]int{n.Sizes}
	for _, s := range n.Stmts {
		out = append(out, s.Over.Box, s.Put.At.Coef)
		out = append(out, coefs(s.Over.Rows)...)
		for _, a := range s.Get {
			out = append(out, a.At.Coef)
		}
	}
	return out
}

// timeLists are all lists of numbers in times.
func timeLists(times api.Times) [][]int {
	var out [][]int
	for _, rows := range times {
		out = append(out, coefs(rows)...)
	}
	return out
}

// wholeAll shows a nest and times with the room behind each list.
func wholeAll(n api.Nest, times api.Times) string {
	out := whole(n.Stmts) + whole(times)
	for _, list := range append(numberLists(n), timeLists(times)...) {
		out += whole(list)
	}
	for _, s := range n.Stmts {
		out += whole(s.Get) + whole(s.Over.Rows)
	}
	for _, rows := range times {
		out += whole(rows)
	}
	return out
}

// apart: no two lists share room.
func apart(t *testing.T, lists [][]int) {
	t.Helper()
	for k, list := range lists {
		spoil(list, -100-k)
	}
	for k, list := range lists {
		if slices.ContainsFunc(list[:cap(list)], func(n int) bool { return n != -100-k }) {
			t.Errorf("list %d of %d shares room with another one", k, len(lists))
		}
	}
}

// some are right nests with times.
func some() ([]api.Nest, []api.Times) {
	d := thrown(10)
	nests := []api.Nest{over(nil), over(l(0)), four(), line(5)}
	times := []api.Times{nil, nil, turns(1, 0, 1, 0), {rows(row(1, -1))}}
	for range 60 {
		n := d.nest()
		nests, times = append(nests, n), append(times, d.times(n))
	}
	return nests, times
}

// E2: what is handed in is only read, the room behind it too, and nothing of it is in what is answered.
func TestE2(t *testing.T) {
	d := thrown(11)
	nests, all := some()
	for k, n := range nests {
		n, times := roomyNest(n), roomyTimes(all[k])
		mix := roomy(d.mix(), -7)
		given := roomy(d.given(n), w(-7))
		for i := range given {
			given[i] = roomy(given[i], -7)
		}
		shown := func() string {
			out := wholeAll(n, times) + whole(mix) + whole(given)
			for _, numbers := range given {
				out += whole(numbers)
			}
			return out
		}
		was := shown()
		order.Wrong(n, times)
		plain := order.Plain(n)
		legal, _ := order.Legal(n, times)
		free, _ := order.Free(n, times)
		ran, _ := order.Run(n, times, given, mix)
		again, _ := order.Run(n, times, given, nil)
		if now := shown(); now != was {
			t.Fatalf("%s was handed in, and %s came back", was, now)
		}
		apart(t, [][]int{legal.A.At, legal.B.At})
		apart(t, [][]int{free.A.At, free.B.At})
		apart(t, timeLists(plain))
		for i := range plain {
			spoil(plain[i], row(i))
		}
		for i := range plain {
			if slices.ContainsFunc(plain[i][:cap(plain[i])], func(r api.Row) bool { return r.Const != i }) {
				t.Errorf("%s: the rows of statement %d share room with others", show(n), i)
			}
		}
		for i, numbers := range append(slices.Clone(ran), again...) {
			spoil(numbers, int64(1000+i))
		}
		for i, numbers := range append(slices.Clone(ran), again...) {
			if slices.ContainsFunc(numbers[:cap(numbers)], func(n int64) bool { return n != int64(1000+i) }) {
				t.Errorf("%s: array %d shares room with another one", show(n), i)
			}
		}
		spoil(ran, w(5))
		if now := shown(); now != was {
			t.Fatalf("%s was handed in, and changes to %s with what is answered", was, now)
		}
	}
}

// E2: Strip keeps nothing of what is handed in, and no two lists of what it answers share room.
func TestE2Strip(t *testing.T) {
	nests, _ := some()
	d := thrown(12)
	done := 0
	for range 10 {
		for _, n := range nests {
			if len(n.Stmts) == 0 {
				continue
			}
			n := roomyNest(n)
			was := wholeAll(n, nil)
			got, err := order.Strip(n, d.IntN(len(n.Stmts)), d.IntN(3), d.of(1, 2, 3))
			if now := wholeAll(n, nil); now != was {
				t.Fatalf("%s was handed in, and %s came back", was, now)
			}
			if err != api.OK {
				continue
			}
			done++
			shown := show(got)
			for _, list := range numberLists(n) {
				spoil(list, -9)
			}
			for k := range n.Stmts {
				spoil(n.Stmts[k].Get, at(-9, -9))
				spoil(n.Stmts[k].Over.Rows, row(-9))
			}
			spoil(n.Stmts, api.Stmt{Do: -9})
			if now := show(got); now != shown {
				t.Fatalf("%s becomes %s with what was handed in", shown, now)
			}
			apart(t, numberLists(got))
			for k, s := range got.Stmts {
				spoil(s.Get, at(k, k))
				spoil(s.Over.Rows, row(k))
			}
			for k, s := range got.Stmts {
				if slices.ContainsFunc(s.Get[:cap(s.Get)], func(a api.Access) bool { return a.Array != k }) || slices.ContainsFunc(s.Over.Rows[:cap(s.Over.Rows)], func(r api.Row) bool { return r.Const != k }) {
					t.Errorf("%s: the lists of statement %d share room with others", shown, k)
				}
			}
		}
	}
	if done < 200 {
		t.Errorf("%d were stripped", done)
	}
}

// E2: one array that is handed in twice is answered as two.
func TestE2OneArrayTwice(t *testing.T) {
	both := w(1, 2)
	wantRun(t, over(l(2, 2), once(api.DoSet, 0)), together(1), mem(both, both), nil, w(5, 2), w(1, 2))
	wantRun(t, over(l(2, 2)), nil, mem(both, both), nil, w(1, 2), w(1, 2))
	if !slices.Equal(both, w(1, 2)) {
		t.Errorf("%v is left", both)
	}
}

// E3: nil and a list without entries are the same.
func TestE3NilAndEmpty(t *testing.T) {
	for _, some := range [][]int{nil, {}, make([]int, 0, 3)} {
		for _, list := range [][]api.Row{nil, {}, make([]api.Row, 0, 3), {{Coef: some}}} {
			for _, get := range [][]api.Access{nil, {}, make([]api.Access, 0, 3)} {
				s := api.Stmt{Over: in(some, list...), Do: api.DoSet, Value: 4, Put: at(0, 0, some...), Get: get}
				wantWrong(t, over(l(1, 0), s), api.Times{list}, api.OK)
				wantRun(t, over(l(1, 0), s), api.Times{list}, mem(w(9), nil), some, w(4), nil)
				wantRun(t, over(l(1, 0), s), api.Times{list}, mem(w(9), w()), some, w(4), nil)
				wantPairs(t, over(l(1), s, s), api.Times{list, nil}, none, pair(spot(0), spot(1)))
			}
		}
		for _, times := range []api.Times{nil, {}} {
			wantRun(t, api.Nest{Sizes: some, Stmts: []api.Stmt{}}, times, mem(), some)
			wantRun(t, api.Nest{Sizes: some}, times, nil, some)
			wantNoPairs(t, api.Nest{Sizes: some}, times, api.OK)
		}
		if got := order.Plain(api.Nest{Sizes: some, Stmts: []api.Stmt{}}); len(got) != 0 {
			t.Errorf("%v comes", got)
		}
		wantStrip(t, over(l(9), api.Stmt{Over: api.Points{Box: l(4), Rows: []api.Row{}}, Do: api.DoSet, Put: at(0, 0, 1), Get: []api.Access{}}, api.Stmt{Over: in(some), Do: api.DoSet, Put: at(0, 0, some...)}), 0, 0, 2,
			over(l(9), do(api.DoSet, in(l(2, 2), row(3, -2, -1)), at(0, 0, 2, 1)), do(api.DoSet, in(nil), at(0, 0))))
	}
}

// wrongByHand is what is wrong with times for a nest, by the words of O2.
func wrongByHand(n api.Nest, times api.Times) api.Errno {
	if err := nest.Wrong(n); err != api.OK {
		return err
	}
	if len(times) != len(n.Stmts) {
		return api.ErrMany
	}
	beyond := func(n int) bool { return n < -far || n > far }
	for k, rows := range times {
		if len(rows) > 8 {
			return api.ErrMany
		}
		for _, r := range rows {
			if len(r.Coef) != len(n.Stmts[k].Over.Box) {
				return api.ErrShape
			}
			if beyond(r.Const) || slices.ContainsFunc(r.Coef, beyond) {
				return api.ErrRange
			}
		}
	}
	return api.OK
}

// stripByHand is Strip by the words of O6.
func stripByHand(n api.Nest, stmt, k, size int) (api.Nest, api.Errno) {
	if err := nest.Wrong(n); err != api.OK {
		return api.Nest{}, err
	}
	if stmt < 0 || stmt >= len(n.Stmts) {
		return api.Nest{}, api.ErrRange
	}
	s := remade(n.Stmts[stmt])
	if k < 0 || k >= len(s.Over.Box) {
		return api.Nest{}, api.ErrShape
	}
	if size < 1 || size > 4096 {
		return api.Nest{}, api.ErrRange
	}
	end := s.Over.Box[k]
	ahead := 0
	for ahead*size < end {
		ahead++
	}
	s.Over.Box = slices.Insert(slices.Clone(s.Over.Box), k+1, size)
	s.Over.Box[k] = ahead
	twice := func(r *api.Row) {
		r.Coef = slices.Insert(r.Coef, k, size*r.Coef[k])
	}
	for i := range s.Over.Rows {
		twice(&s.Over.Rows[i])
	}
	twice(&s.Put.At)
	for i := range s.Get {
		twice(&s.Get[i].At)
	}
	fence := row(end-1, make([]int, len(s.Over.Box))...)
	fence.Coef[k] = -size
	fence.Coef[k+1] = -1
	s.Over.Rows = append(s.Over.Rows, fence)
	out := over(n.Sizes, slices.Clone(n.Stmts)...)
	out.Stmts[stmt] = s
	if err := nest.Wrong(out); err != api.OK {
		return api.Nest{}, err
	}
	return out, api.OK
}

// E1, E4: whatever is handed in, nothing panics, and with an error there is nothing else.
func TestE1WhateverIsGiven(t *testing.T) {
	d := thrown(13)
	odd := func() int {
		if d.IntN(12) > 0 {
			return d.of(0, 0, 1, 1, 2, 3, -1)
		}
		return d.of(least, -far-1, -far, far, far+1, 64, 1024, 1025, 4096, 4097, 65537, 1<<32, most)
	}
	list := func(longest int) []int {
		out := make([]int, d.IntN(longest+1))
		for k := range out {
			out[k] = odd()
		}
		return out
	}
	oddRow := func(numbers int) api.Row {
		if d.IntN(20) == 0 {
			return row(odd(), list(3)...)
		}
		return row(odd(), append(list(2), 1, 0, 2)[:numbers]...)
	}
	fine, right, stripped := 0, 0, 0
	for range 20000 {
		n := api.Nest{Sizes: append(list(1), 3, 1)}
		var times api.Times
		for range d.of(0, 1, 1, 2, 3) {
			s := api.Stmt{Over: in(list(2)), Do: d.of(1, 2, 3, 8, 9, 10), Value: int64(odd())}
			if d.IntN(20) == 0 {
				s.Do = odd()
			}
			numbers := len(s.Over.Box)
			s.Put = api.Access{Array: d.of(0, 0, 1, odd()), At: oddRow(numbers)}
			for range d.of(many(s.Do), many(s.Do), many(s.Do), many(s.Do), d.IntN(4)) {
				s.Get = append(s.Get, api.Access{Array: d.of(0, 0, 1, odd()), At: oddRow(numbers)})
			}
			if d.IntN(4) == 0 {
				s.Over.Rows = append(s.Over.Rows, oddRow(numbers))
			}
			n.Stmts = append(n.Stmts, s)
			var rows []api.Row
			for range d.of(0, 1, 1, 2, d.IntN(10)) {
				rows = append(rows, oddRow(numbers))
			}
			times = append(times, rows)
		}
		if d.IntN(20) == 0 {
			times = append(times, nil)[d.IntN(2):]
		}
		stmt, k, size := d.of(0, 0, odd()), d.of(0, 1, odd()), d.of(1, 2, 3, odd())
		want, err := stripByHand(n, stmt, k, size)
		if err == api.OK {
			stripped++
			wantStrip(t, n, stmt, k, size, want)
		} else {
			wantNoStrip(t, n, stmt, k, size, err)
		}
		if got := order.Plain(n); len(got) != len(n.Stmts) {
			t.Fatalf("%s: %d lists come", show(n), len(got))
		}
		wrong := wrongByHand(n, times)
		if got := order.Wrong(n, times); got != wrong {
			t.Fatalf("%s at %v: %d comes, not %d", show(n), times, got, wrong)
		}
		if nest.Wrong(n) == api.OK && len(n.Stmts) > 0 {
			fine++
		}
		if wrong == api.OK && len(spotsByHand(n)) > 1024 {
			wrong = api.ErrMuch
		}
		if wrong != api.OK {
			wantNoPairs(t, n, times, wrong)
			wantNoRun(t, n, times, fitting(n), wrong)
			continue
		}
		if len(n.Stmts) > 0 {
			right++
		}
		if len(spotsByHand(n)) > 70 {
			continue
		}
		wantPairs(t, n, times, legalByHand(n, times), freeByHand(n, times))
		mix := list(5)
		given := fitting(n)
		wantRun(t, n, times, given, mix, runByHand(n, times, given, mix)...)
	}
	if min(fine, right, stripped) < 300 {
		t.Errorf("%d nests were right, %d with times, %d were stripped", fine, right, stripped)
	}
}

// E1: several calls do not know of one another.
func TestE1AtTheSameTime(t *testing.T) {
	nests, times := some()
	all := func() string {
		out := ""
		for k, n := range nests {
			legal, err := order.Legal(n, times[k])
			free, no := order.Free(n, times[k])
			ran, none := order.Run(n, times[k], fitting(n), l(3, -1, 2))
			strip, wrong := order.Strip(n, 0, 0, 2)
			out += fmt.Sprint(order.Plain(n), legal, err, free, no, ran, none, strip, wrong)
		}
		return out
	}
	want := all()
	got := make([]string, 8)
	var group sync.WaitGroup
	for k := range got {
		group.Go(func() { got[k] = all() })
	}
	group.Wait()
	for _, s := range got {
		if s != want {
			t.Error("something else comes at the same time")
		}
	}
}
