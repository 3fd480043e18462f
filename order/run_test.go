package order_test

import (
	"fmt"
	"slices"
	"testing"

	"adjoint/api"
	"adjoint/nest"
	"adjoint/order"
)

// four is a nest of four spots that change one number, each in another way: in whatever order they are done, something else comes.
func four() api.Nest {
	n := at(0, 0)
	return over(l(1, 2), do(api.DoAdd, in(nil), n, n, at(1, 0)), do(api.DoAdd, in(nil), n, n, n), do(api.DoSub, in(nil), n, at(1, 1), n), do(api.DoMul, in(nil), n, n, n))
}

// inOrder is what the four make of 2, with 3 and 8 beside it, done in this order.
func inOrder(spots ...int) int64 {
	n := int64(2)
	for _, k := range spots {
		n = [...]int64{n + 3, n + n, 8 - n, n * n}[k]
	}
	return n
}

// wantOrder: the four are done in this order.
func wantOrder(t *testing.T, times api.Times, mix []int, spots ...int) {
	t.Helper()
	wantRun(t, four(), times, mem(w(2), w(3, 8)), mix, w(inOrder(spots...)), w(3, 8))
}

// What the four make tells in which order they were done.
func TestFourTellTheirOrder(t *testing.T) {
	seen := map[int64][]int{}
	for k := range 256 {
		spots := l(k&3, k>>2&3, k>>4&3, k>>6&3)
		if len(slices.Compact(slices.Sorted(slices.Values(spots)))) < 4 {
			continue
		}
		n := inOrder(spots...)
		if seen[n] != nil {
			t.Errorf("%v and %v make %d", spots, seen[n], n)
		}
		seen[n] = spots
	}
	if len(seen) != 24 {
		t.Errorf("there are %d orders", len(seen))
	}
}

// O5: those with the least time first, those of one time as they stand.
func TestO5ByTime(t *testing.T) {
	wantOrder(t, together(4), nil, 0, 1, 2, 3)
	wantOrder(t, turns(0, 1, 2, 3), nil, 0, 1, 2, 3)
	wantOrder(t, turns(3, 2, 1, 0), nil, 3, 2, 1, 0)
	wantOrder(t, turns(1, 0, 1, 0), nil, 1, 3, 0, 2)
	wantOrder(t, turns(0, -1, far, -far), nil, 3, 1, 0, 2)
	wantOrder(t, turns(2, 2, -2, 2), nil, 2, 0, 1, 3)
	// Times of different lengths: noughts stand behind them.
	wantOrder(t, api.Times{rows(row(0), row(1)), rows(row(0)), rows(row(0), row(-1)), nil}, nil, 2, 1, 3, 0)
	wantOrder(t, api.Times{nil, rows(row(-1), row(9)), rows(row(-1), row(8), row(9)), rows(row(0), row(0), row(-1))}, nil, 2, 1, 3, 0)
	wantOrder(t, api.Times{slices.Repeat(rows(row(0)), 8), append(slices.Repeat(rows(row(0)), 7), row(-1)), append(slices.Repeat(rows(row(0)), 7), row(1)), nil}, nil, 1, 0, 3, 2)
}

// O5: of those of one time mix tells which is next, modulo how many are left.
func TestO5Mix(t *testing.T) {
	for _, c := range []struct{ mix, want []int }{
		{l(), l(0, 1, 2, 3)}, {l(0), l(0, 1, 2, 3)}, {l(1), l(1, 2, 3, 0)}, {l(2), l(2, 3, 0, 1)}, {l(3), l(3, 0, 2, 1)}, {l(4), l(0, 2, 1, 3)}, {l(12), l(0, 1, 2, 3)},
		{l(-1), l(3, 2, 1, 0)}, {l(-2), l(2, 1, 0, 3)}, {l(-3), l(1, 0, 3, 2)}, {l(-4), l(0, 3, 1, 2)},
		{l(most), l(3, 1, 2, 0)}, {l(least), l(0, 2, 1, 3)}, {l(most, least), l(3, 1, 2, 0)},
		{l(3, 0), l(3, 0, 2, 1)}, {l(0, 1), l(0, 2, 1, 3)}, {l(1, 0, 1), l(1, 0, 3, 2)}, {l(0, 0, 1), l(0, 1, 3, 2)},
		{l(1, 2, 3, 4), l(1, 3, 2, 0)}, {l(1, 2, 3, 4, 5, 6, 7, 8), l(1, 3, 2, 0)}, {l(0, 0, 0, 0, 1, 1, 1, 1), l(0, 1, 2, 3)},
	} {
		wantOrder(t, together(4), c.mix, c.want...)
		wantOrder(t, turns(-5, -5, -5, -5), c.mix, c.want...)
		// Where no two have one time it changes nothing.
		wantOrder(t, turns(3, 1, 0, 2), c.mix, 2, 1, 3, 0)
	}
}

// O5: each spot takes a number of mix, those that are alone at their time too, and a new time goes on behind the last number that was taken.
func TestO5MixOverTimes(t *testing.T) {
	times := turns(1, 0, 1, 0)
	wantOrder(t, times, l(1), 3, 1, 2, 0)
	wantOrder(t, times, l(-1), 3, 1, 2, 0)
	wantOrder(t, times, l(0, 1, 0), 1, 3, 0, 2)
	wantOrder(t, times, l(0, 1, 1, 0), 1, 3, 2, 0)
	wantOrder(t, times, l(1, 0, 0), 3, 1, 0, 2)
	wantOrder(t, times, l(1, 0), 3, 1, 2, 0)
	alone := turns(0, 1, 2, 2)
	wantOrder(t, alone, l(0, 0, 1), 0, 1, 3, 2)
	wantOrder(t, alone, l(1, 1, 0), 0, 1, 2, 3)
	wantOrder(t, alone, l(0, 1), 0, 1, 2, 3)
	wantOrder(t, alone, l(1, 0), 0, 1, 3, 2)
}

// O5: mem has as many arrays as the nest, each of its size; whether or not anything is to be done.
func TestO5Mem(t *testing.T) {
	for _, c := range []struct {
		n     api.Nest
		times api.Times
	}{
		{over(l(2, 3)), nil},
		{over(l(2, 3), do(api.DoSet, in(l(0)), at(0, 0, 0))), api.Times{nil}},
		{over(l(2, 3), do(api.DoCopy, in(l(2)), at(0, 0, 1), at(1, 0, 1))), api.Times{rows(row(0, -1))}},
	} {
		fine := mem(w(1, 2), w(3, 4, 5))
		if got, err := order.Run(c.n, c.times, fine, nil); err != api.OK || len(got) != 2 {
			t.Errorf("%s: %v, %d comes", show(c.n), got, err)
		}
		for _, given := range [][][]int64{nil, {}, fine[:1], append(slices.Clone(fine), w()), append(slices.Clone(fine), nil, nil), mem(w(1))} {
			wantNoRun(t, c.n, c.times, given, api.ErrMany)
		}
		for _, given := range [][][]int64{mem(w(1), w(3, 4, 5)), mem(w(1, 2, 3), w(3, 4, 5)), mem(w(1, 2), w(3, 4)), mem(w(1, 2), w(3, 4, 5, 6)), mem(nil, w(3, 4, 5)), mem(w(1, 2), nil), mem(w(3, 4, 5), w(1, 2))} {
			wantNoRun(t, c.n, c.times, given, api.ErrShape)
		}
	}
	wantNoRun(t, over(nil), nil, mem(w()), api.ErrMany)
	wantNoRun(t, over(l(0)), nil, mem(w(1)), api.ErrShape)
	wantRun(t, over(nil), nil, nil, l(1))
	wantRun(t, over(l(0)), nil, mem(nil), nil, nil)
}

// O5: each kind of statement does what it does; outside an array noughts are got, and what is put there is lost.
func TestO5EachDeed(t *testing.T) {
	d := thrown(3)
	for _, what := range all() {
		for range 30 {
			s := api.Stmt{Over: in(l(2, 3)), Do: what, Value: d.numbers(1)[0], Put: api.Access{Array: d.IntN(2), At: d.row(2)}}
			for range many(what) {
				s.Get = append(s.Get, api.Access{Array: d.IntN(2), At: d.row(2)})
			}
			n := over(l(3, 4), s)
			given := d.given(n)
			want, _ := nest.Run(n, given)
			wantRun(t, n, order.Plain(n), given, nil, want...)
			times := api.Times{rows(row(0, 0, -1))}
			wantRun(t, n, times, given, nil, runByHand(n, times, given, nil)...)
		}
	}
	// Rows that lead as far outside as they can.
	for _, far := range l(-far, far) {
		n := over(l(3), do(api.DoCopy, in(l(2)), at(0, far, far), at(0, 0, 1)), do(api.DoCopy, in(l(2)), at(0, 1, 1), at(0, far, far)))
		wantRun(t, n, together(2), mem(w(1, 2, 3)), l(1), w(1, 0, 0))
	}
}

// O5: as many spots as may be, one behind the other in either order: each adds what is ahead of it.
func TestO5ManySpots(t *testing.T) {
	for _, many := range l(1, 255, 256, 257, 511, 512, 513, 1023, 1024) {
		n := over(l(many+1), do(api.DoMore, in(l(many)), at(0, 1, 1), at(0, 0, 1)))
		given, along, back := make([]int64, many+1), make([]int64, many+1), make([]int64, many+1)
		for k := range given {
			given[k] = int64(k*k%17 + 1)
			along[k], back[k] = given[k], given[k]
			if k > 0 {
				along[k], back[k] = given[k]+along[k-1], given[k]+given[k-1]
			}
		}
		wantRun(t, n, api.Times{rows(row(0, 1))}, mem(given), nil, along)
		wantRun(t, n, api.Times{rows(row(0, -1))}, mem(given), nil, back)
		wantRun(t, n, together(1), mem(given), nil, along)
		wantRun(t, n, together(1), mem(given), l(0), along)
		wantRun(t, n, together(1), mem(given), l(-1), back)
		wantRun(t, n, api.Times{rows(row(0, -1))}, mem(given), l(7, -3), back)
	}
}

// O5: nests, times and mix that dice have thrown, against the words.
func TestO5Thrown(t *testing.T) {
	d := thrown(4)
	moved := 0
	for range 1500 {
		n := d.nest()
		times, given, mix := d.times(n), d.given(n), d.mix()
		want := runByHand(n, times, given, mix)
		wantRun(t, n, times, given, mix, want...)
		if plain, _ := nest.Run(n, given); !same(plain, want) {
			moved++
		}
	}
	if moved < 200 {
		t.Errorf("%d did something else than the nest as it stands", moved)
	}
}

// O3, O4, O5: an order that is legal leaves all memory as it would be if all stood as it does, whatever lies in it; if it is free too, mix changes nothing.
func TestALegalOrderChangesNothing(t *testing.T) {
	d := thrown(5)
	legal, free := 0, 0
	for range 6000 {
		n := d.nest()
		times := d.times(n)
		if found, _ := order.Legal(n, times); found.Any {
			continue
		}
		found, _ := order.Free(n, times)
		for range 3 {
			given := d.given(n)
			want, _ := nest.Run(n, given)
			wantRun(t, n, times, given, nil, want...)
			if !found.Any {
				wantRun(t, n, times, given, d.mix(), want...)
			}
		}
		stand := spotsByHand(n)
		if fmt.Sprint(turnsByHand(n, times, nil)) != fmt.Sprint(stand) {
			legal++
		}
		if mixed := turnsByHand(n, times, l(-1)); !found.Any && fmt.Sprint(mixed) != fmt.Sprint(stand) {
			free++
		}
	}
	if min(legal, free) < 100 {
		t.Errorf("%d were in another order, %d in any", legal, free)
	}
}

// O4: where a pair would change places there is memory that shows it: what is found is no false alarm for statements that set one number.
func TestAnOrderThatIsNotLegalShows(t *testing.T) {
	n := over(l(3), api.Stmt{Do: api.DoSet, Value: 1, Put: at(0, 0)}, api.Stmt{Do: api.DoSet, Value: 2, Put: at(0, 0)}, once(api.DoCopy, 1, 0))
	for _, c := range []struct {
		times []int
		want  []int64
		legal api.Found
	}{
		{l(0, 1, 2), w(2, 2, 9), none}, {l(1, 0, 2), w(1, 1, 9), pair(spot(0), spot(1))}, {l(0, 2, 1), w(2, 1, 9), pair(spot(1), spot(2))}, {l(1, 2, 0), w(2, 9, 9), pair(spot(0), spot(2))},
	} {
		wantPairs(t, n, turns(c.times...), c.legal, none)
		wantRun(t, n, turns(c.times...), mem(w(9, 9, 9)), nil, c.want)
	}
}
