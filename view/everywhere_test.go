package view_test

import (
	"fmt"
	"slices"
	"testing"

	"adjoint/api"
	"adjoint/view"
)

// spare is how much room there is behind a list that roomy makes.
const spare = 4

// roomy is a list with room behind it, in which 77 stands.
func roomy(numbers ...int) []int {
	list := append(slices.Clone(numbers), slices.Repeat(l(77), spare)...)
	return list[:len(numbers)]
}

// kept tells whether a list that roomy made is as it was, its spare room too.
func kept(list []int, numbers ...int) bool {
	return slices.Equal(list[:len(numbers)+spare], append(slices.Clone(numbers), slices.Repeat(l(77), spare)...))
}

// spoil writes over a list, its spare room too.
func spoil(list []int) {
	list = list[:cap(list)]
	for k := range list {
		list[k] = -99
	}
}

// called is a call, the lists that it was given (by roomy), and what they hold.
type called struct {
	name  string
	given [][]int
	do    func(given [][]int) ([][]int, api.Errno)
}

// told is what a view's lists are.
func told(v api.View, err api.Errno) ([][]int, api.Errno) { return [][]int{v.Dims, v.Steps}, err }

// calls are all that take or answer lists.
func calls() []called {
	start := 3
	seen := func(g [][]int) api.View { return of(start, g[0], g[1]) }
	one := func(list []int, err api.Errno) ([][]int, api.Errno) { return [][]int{list}, err }
	dims, steps := l(2, 3), l(3, 1)
	return []called{
		{"Size", [][]int{dims}, func(g [][]int) ([][]int, api.Errno) { _, err := view.Size(g[0]); return nil, err }},
		{"Place", [][]int{dims, l(1, 2)}, func(g [][]int) ([][]int, api.Errno) { _, err := view.Place(g[0], g[1]); return nil, err }},
		{"Index", [][]int{dims}, func(g [][]int) ([][]int, api.Errno) { return one(view.Index(g[0], 4)) }},
		{"Wrong", [][]int{dims, steps}, func(g [][]int) ([][]int, api.Errno) { return nil, view.Wrong(seen(g)) }},
		{"Whole", [][]int{dims}, func(g [][]int) ([][]int, api.Errno) { return told(view.Whole(g[0])) }},
		{"Whole of none", [][]int{l(2, 0)}, func(g [][]int) ([][]int, api.Errno) { return told(view.Whole(g[0])) }},
		{"Reads", [][]int{dims, steps}, func(g [][]int) ([][]int, api.Errno) { return one(view.Reads(seen(g))) }},
		{"Turn", [][]int{dims, steps, l(1, 0)}, func(g [][]int) ([][]int, api.Errno) { return told(view.Turn(seen(g), g[2])) }},
		{"Turn nothing", [][]int{dims, steps, l(0, 1)}, func(g [][]int) ([][]int, api.Errno) { return told(view.Turn(seen(g), g[2])) }},
		{"Flip", [][]int{dims, steps, l(1)}, func(g [][]int) ([][]int, api.Errno) { return told(view.Flip(seen(g), g[2])) }},
		{"Flip nothing", [][]int{dims, steps, l()}, func(g [][]int) ([][]int, api.Errno) { return told(view.Flip(seen(g), g[2])) }},
		{"Cut", [][]int{dims, steps, l(0, 1), l(2, 3), l(1, 2)}, func(g [][]int) ([][]int, api.Errno) { return told(view.Cut(seen(g), g[2], g[3], g[4])) }},
		{"Cut nothing", [][]int{dims, steps, l(0, 0), l(2, 3), l(1, 1)}, func(g [][]int) ([][]int, api.Errno) { return told(view.Cut(seen(g), g[2], g[3], g[4])) }},
		{"Spread", [][]int{dims, steps, l(2, 4, 3), l(0, 2)}, func(g [][]int) ([][]int, api.Errno) { return told(view.Spread(seen(g), g[2], g[3])) }},
		{"Spread nothing", [][]int{dims, steps, l(2, 3), l(0, 1)}, func(g [][]int) ([][]int, api.Errno) { return told(view.Spread(seen(g), g[2], g[3])) }},
		{"Reform", [][]int{dims, steps, l(3, 2)}, func(g [][]int) ([][]int, api.Errno) { return told(view.Reform(seen(g), g[2])) }},
		{"Reform nothing", [][]int{dims, steps, l(2, 3)}, func(g [][]int) ([][]int, api.Errno) { return told(view.Reform(seen(g), g[2])) }},
	}
}

// hand gives a call its lists, with room behind them.
func hand(c called) [][]int {
	var given [][]int
	for _, numbers := range c.given {
		given = append(given, roomy(numbers...))
	}
	return given
}

// copies are lists that share nothing with these.
func copies(all [][]int) [][]int {
	var out [][]int
	for _, list := range all {
		out = append(out, slices.Clone(list))
	}
	return out
}

// E2: what is handed in is only read, and neither an answer nor a list of it shares anything with it or with another list.
func TestE2Memory(t *testing.T) {
	for _, c := range calls() {
		given := hand(c)
		answer, err := c.do(given)
		if err != api.OK {
			t.Errorf("%s: %d", c.name, err)
		}
		was := copies(answer)
		for i := range answer {
			spoil(answer[i])
			for k, list := range given {
				if !kept(list, c.given[k]...) {
					t.Errorf("%s: list %d that was handed in is changed, or shared", c.name, k)
				}
			}
			for j := i + 1; j < len(answer); j++ {
				if !slices.Equal(answer[j], was[j]) {
					t.Errorf("%s: two lists of the answer share room", c.name)
				}
			}
		}
	}
}

// E1, E2: an answer stays when what was handed in is changed, and it is the same again when the same is handed in again.
func TestE2NothingIsKept(t *testing.T) {
	for _, c := range calls() {
		given := hand(c)
		answer, _ := c.do(given)
		was := copies(answer)
		for _, list := range given {
			spoil(list)
		}
		if !slices.EqualFunc(answer, was, slices.Equal[[]int]) {
			t.Errorf("%s: the answer changes with what was handed in", c.name)
		}
		again, _ := c.do(hand(c))
		if !slices.EqualFunc(again, was, slices.Equal[[]int]) {
			t.Errorf("%s: the same call answers otherwise", c.name)
		}
	}
}

// E3: nil and a list without entries are the same.
func TestE3NilAndEmpty(t *testing.T) {
	for _, none := range [][]int{nil, {}, make([]int, 0, 5)} {
		point := of(8, none, none)
		size, err := view.Size(none)
		wantNumber(t, "Size", size, err, 1, api.OK)
		place, err := view.Place(none, none)
		wantNumber(t, "Place", place, err, 0, api.OK)
		at, err := view.Index(none, 0)
		wantList(t, "Index", at, err, nil, api.OK)
		if err := view.Wrong(point); err != api.OK {
			t.Errorf("Wrong: %d", err)
		}
		v, err := view.Whole(none)
		wantView(t, "Whole", v, err, api.View{}, api.OK)
		places, err := view.Reads(point)
		wantList(t, "Reads", places, err, l(8), api.OK)
		v, err = view.Turn(point, none)
		wantView(t, "Turn", v, err, of(8, nil, nil), api.OK)
		v, err = view.Flip(point, none)
		wantView(t, "Flip", v, err, of(8, nil, nil), api.OK)
		v, err = view.Cut(point, none, none, none)
		wantView(t, "Cut", v, err, of(8, nil, nil), api.OK)
		v, err = view.Spread(point, none, none)
		wantView(t, "Spread", v, err, of(8, nil, nil), api.OK)
		v, err = view.Reform(point, none)
		wantView(t, "Reform", v, err, of(8, nil, nil), api.OK)
	}
}

// E1, E4: whatever is handed in, nothing panics, and with an error there is nothing else.
func TestE1WhateverIsGiven(t *testing.T) {
	odd := [][]int{nil, l(0), l(1), l(-1), l(2), l(4096), l(4097), l(most), l(least), l(2, 3), l(1, 0), l(0, 1),
		l(least, most), l(reach, -reach), l(reach+1, 0), l(0, 0), l(3, 1), ones(6), ones(7), slices.Repeat(l(4096), 6), l(0, 1, 2, 3, 4, 5), l(0, 1, 2, 3, 4, 5, 6)}
	empty := func(what string, v api.View, err api.Errno) {
		if err != api.OK && !sameView(v, api.View{}) {
			t.Errorf("%s: %v, %d", what, v, err)
		}
		if err == api.OK && view.Wrong(v) != api.OK {
			t.Errorf("%s: %v is wrong", what, v)
		}
	}
	for _, a := range odd {
		for _, b := range odd {
			if place, err := view.Place(a, b); err != api.OK && place != 0 {
				t.Errorf("Place %v %v: %d, %d", a, b, place, err)
			}
			for _, start := range l(0, -1, reach, -reach, reach+1, most, least) {
				v := of(start, a, b)
				if at, err := view.Index(a, start); err != api.OK && len(at) > 0 {
					t.Errorf("Index %v %d: %v, %d", a, start, at, err)
				}
				if places, err := view.Reads(v); err != view.Wrong(v) || err != api.OK && len(places) > 0 {
					t.Errorf("Reads %v: %v, %d", v, places, err)
				}
				for _, c := range odd {
					what := fmt.Sprint(v, c)
					w, err := view.Turn(v, c)
					empty("Turn "+what, w, err)
					w, err = view.Flip(v, c)
					empty("Flip "+what, w, err)
					w, err = view.Cut(v, c, a, b)
					empty("Cut "+what, w, err)
					w, err = view.Spread(v, c, a)
					empty("Spread "+what, w, err)
					w, err = view.Spread(v, a, c)
					empty("Spread at "+what, w, err)
					w, err = view.Reform(v, c)
					empty("Reform "+what, w, err)
				}
			}
		}
	}
}
