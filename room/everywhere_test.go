package room_test

import (
	"fmt"
	"slices"
	"sync"
	"testing"

	"adjoint/api"
	"adjoint/graph"
	"adjoint/room"
)

// roomy is a list with room behind it, in which something stands.
func roomy[T any](list []T, with T) []T {
	return append(slices.Clone(list), with, with, with)[:len(list)]
}

// whole shows a list with the room behind it.
func whole[T any](list []T) string { return fmt.Sprint(list[:cap(list)]) }

// spoil writes over a list, its spare room too.
func spoil[T any](list []T, with T) {
	list = list[:cap(list)]
	for k := range list {
		list[k] = with
	}
}

// E2: lives are only read, and what is answered is new.
func TestE2Lives(t *testing.T) {
	d := thrown(6)
	for range 300 {
		given := roomy(d.lives(), life(-7, -7, -7))
		was := whole(given)
		room.Wrong(given)
		room.Load(given)
		at, _, _ := room.Lay(given)
		again, _, _ := room.Lay(given)
		spoil(at, -5)
		if now := whole(given); now != was {
			t.Fatalf("%s was handed in, and %s came back", was, now)
		}
		if slices.Contains(again, -5) {
			t.Fatal("two answers share room")
		}
	}
}

// E2: a graph is only read, and what is answered is new.
func TestE2Graph(t *testing.T) {
	d := thrown(7)
	for range 300 {
		g, _ := d.graph()
		g.Nodes, g.Outs = roomy(g.Nodes, fill(-7)), roomy(g.Outs, -7)
		for k := range g.Nodes {
			g.Nodes[k].Args = roomy(g.Nodes[k].Args, -7)
			g.Nodes[k].Op.Dims = roomy(g.Nodes[k].Op.Dims, -7)
		}
		shown := func() string {
			out := whole(g.Nodes) + whole(g.Outs)
			for _, node := range g.Nodes {
				out += whole(node.Args) + whole(node.Op.Dims)
			}
			return out
		}
		was := shown()
		got, _ := room.Lives(g)
		again, _ := room.Lives(g)
		spoil(got, life(-5, -5, -5))
		if now := shown(); now != was {
			t.Fatalf("%s was handed in, and %s came back", was, now)
		}
		if slices.Contains(again, life(-5, -5, -5)) {
			t.Fatal("two answers share room")
		}
	}
}

// E2: a tree is only read, and what is answered is new.
func TestE2Tree(t *testing.T) {
	d := thrown(8)
	for range 300 {
		above, words := d.tree()
		order := roomy(d.order(above), -7)
		above, words = roomy(above, -7), roomy(words, -7)
		was := whole(above) + whole(words) + whole(order)
		room.Peak(above, words, order)
		got, _, _ := room.Climb(above, words)
		again, _, _ := room.Climb(above, words)
		spoil(got, -5)
		if now := whole(above) + whole(words) + whole(order); now != was {
			t.Fatalf("%s was handed in, and %s came back", was, now)
		}
		if slices.Contains(again, -5) {
			t.Fatal("two answers share room")
		}
	}
	// One list that is handed in as all of them.
	one := l(-1)
	wantNoPeak(t, one, one, one, api.ErrRange)
	wantBadTree(t, l(1, 0), l(1, 0), api.ErrForm)
}

// E3: nil and a list without entries are the same.
func TestE3NilAndEmpty(t *testing.T) {
	for _, some := range [][]int{nil, {}, make([]int, 0, 3)} {
		for _, other := range [][]int{nil, {}, make([]int, 0, 3)} {
			wantPeak(t, some, other, nil, 0)
			wantPeak(t, nil, some, other, 0)
			wantClimb(t, some, other, 0)
			wantLives(t, api.Graph{Nodes: []api.Node{}, Outs: some})
			wantLives(t, api.Graph{Nodes: []api.Node{{Op: api.Op{Kind: api.Fill, Dims: some}, Args: other}}, Outs: some}, life(0, 1, 1))
		}
	}
	for _, none := range [][]api.Life{nil, {}, make([]api.Life, 0, 3)} {
		wantLoad(t, 0, none...)
		wantLay(t, none, 0)
	}
}

// odd is a number that may be anything.
func (d dice) odd() int {
	if d.IntN(12) > 0 {
		return d.of(0, 1, 2, 3, 4, 5, 6)
	}
	return d.of(least, -all-1, -2, -1, full-1, full, full+1, all-1, all, all+1, 1<<32, most)
}

// odds is a list of such numbers.
func (d dice) odds(many int) []int {
	out := make([]int, many)
	for k := range out {
		out[k] = d.odd()
	}
	return out
}

// wrongByHand is what is wrong with lives, by the words of M1.
func wrongByHand(given []api.Life) api.Errno {
	for _, one := range given {
		if !(0 <= one.From && one.From <= one.To && one.To <= all && 0 <= one.Words && one.Words <= all) {
			return api.ErrRange
		}
	}
	return api.OK
}

// E1, E4: whatever lives are handed in, nothing panics, and with an error there is nothing else.
func TestE1WhateverLives(t *testing.T) {
	d := thrown(9)
	right, much := 0, 0
	for range 20000 {
		given := make([]api.Life, d.IntN(6))
		for k := range given {
			given[k] = life(d.odd(), d.odd()+d.IntN(5), d.odd())
		}
		if err := wrongByHand(given); err != api.OK {
			wantBad(t, given, err)
			continue
		}
		right++
		at, words, err := room.Lay(given)
		load, no := room.Load(given)
		if no != api.OK {
			t.Fatalf("Load of %v: %d comes", given, no)
		}
		if err == api.ErrMuch {
			much++
			wantNoPlaces(t, given, err)
			continue
		}
		if err != api.OK || len(at) != len(given) || words < load || words > all {
			t.Fatalf("Lay of %v: %v, %d, %d come", given, at, words, err)
		}
	}
	if right < 1000 || much < 10 {
		t.Errorf("%d were right, %d too much", right, much)
	}
}

// treeWrongByHand is what is wrong with a tree, by the words of M4.
func treeWrongByHand(above, words []int) api.Errno {
	if len(above) != len(words) {
		return api.ErrMany
	}
	for k := range above {
		isLast := k+1 == len(above)
		if isLast && above[k] != -1 {
			return api.ErrForm
		}
		if !isLast && !slices.Contains(upTo(len(above))[k+1:], above[k]) {
			return api.ErrForm
		}
		if words[k] < 0 || words[k] > all {
			return api.ErrRange
		}
	}
	return api.OK
}

// orderWrongByHand tells whether an order is none, by the words of M5.
func orderWrongByHand(above, order []int) bool {
	sorted := slices.Sorted(slices.Values(order))
	if !slices.Equal(sorted, upTo(len(above))) {
		return true
	}
	for k, up := range above {
		if up >= 0 && slices.Index(order, k) > slices.Index(order, up) {
			return true
		}
	}
	return false
}

// E1, E4: whatever tree is handed in, nothing panics, and with an error there is nothing else.
func TestE1WhateverTree(t *testing.T) {
	d := thrown(10)
	right, ordered := 0, 0
	for range 30000 {
		above, words := d.tree()
		above, words = slices.Clone(above), slices.Clone(words)
		order := d.order(above)
		if len(above) > 0 {
			for range d.IntN(3) {
				above[d.IntN(len(above))] = d.odd()
				words[d.IntN(len(words))] = d.odd()
			}
			for range d.IntN(3) {
				order[d.IntN(len(order))] = d.odd()
			}
		}
		if d.IntN(20) == 0 {
			words = d.odds(d.IntN(8))
		}
		if d.IntN(20) == 0 {
			order = d.odds(d.IntN(8))
		}
		if err := treeWrongByHand(above, words); err != api.OK {
			wantBadTree(t, above, words, err)
			wantNoPeak(t, above, words, order, err)
			continue
		}
		right++
		if len(above) > 0 {
			climbed := climbByHand(above, words, len(above)-1)
			wantClimb(t, above, words, peakByHand(above, words, climbed), climbed...)
		}
		if orderWrongByHand(above, order) {
			wantNoPeak(t, above, words, order, api.ErrOrder)
			continue
		}
		ordered++
		wantPeak(t, above, words, order, peakByHand(above, words, order))
	}
	if right < 3000 || ordered < 1000 {
		t.Errorf("%d trees were right, %d with an order", right, ordered)
	}
}

// E1, E4: whatever graph is handed in, Lives tells what is wrong with it, and nothing else.
func TestE1WhateverGraph(t *testing.T) {
	d := thrown(11)
	right := 0
	for range 20000 {
		g, _ := d.graph()
		for k := range g.Nodes {
			node := &g.Nodes[k]
			switch d.IntN(20) {
			case 0:
				node.Op.Kind = d.odd()
			case 1:
				node.Args = d.odds(d.IntN(4))
			case 2:
				node.Op.Dims = d.odds(d.IntN(8))
			}
		}
		if d.IntN(10) == 0 {
			g.Outs = d.odds(d.IntN(4))
		}
		dims, err := graph.Dims(g)
		if err != api.OK {
			wantNoLives(t, g, err)
			continue
		}
		right++
		words := make([]int, len(dims))
		for k := range dims {
			words[k] = 1
			for _, n := range dims[k] {
				words[k] *= n
			}
		}
		wantLives(t, g, livesByHand(g, graph.Params(g), words)...)
	}
	if right < 5000 {
		t.Errorf("%d were right", right)
	}
}

// E1: several calls do not know of one another.
func TestE1AtTheSameTime(t *testing.T) {
	run := func() string {
		d := thrown(12)
		out := ""
		for range 200 {
			given := d.lives()
			above, words := d.tree()
			g, _ := d.graph()
			load, _ := room.Load(given)
			at, end, _ := room.Lay(given)
			order, need, _ := room.Climb(above, words)
			peak, _ := room.Peak(above, words, d.order(above))
			needed, _ := room.Lives(g)
			out += fmt.Sprint(room.Wrong(given), load, at, end, order, need, peak, needed)
		}
		return out
	}
	want := run()
	got := make([]string, 8)
	var group sync.WaitGroup
	for k := range got {
		group.Go(func() { got[k] = run() })
	}
	group.Wait()
	for _, s := range got {
		if s != want {
			t.Error("something else comes at the same time")
		}
	}
}
