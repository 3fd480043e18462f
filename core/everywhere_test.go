package core_test

import (
	"fmt"
	"slices"
	"sync"
	"testing"

	"adjoint/api"
	"adjoint/core"
	"adjoint/graph"
)

// roomy is a list with room behind it, in which something stands.
func roomy[T any](list []T, with T) []T {
	return append(slices.Clone(list), with, with, with)[:len(list)]
}

// whole shows a list with the room behind it.
func whole[T any](list []T) string { return fmt.Sprint(list[:cap(list)]) }

// spoil writes over a list, its spare room too.
func spoil[T any](list []T, with T) {
	list = list[:cap(list)]
	for k := range list {
		list[k] = with
	}
}

// E2: code, memory and picks are only read, the room behind them too, and what is answered is new.
func TestE2Run(t *testing.T) {
	d := thrown(10)
	for range 2000 {
		c := d.code(8)
		c.Mover, c.Maker = roomy(c.Mover, post(-7)), roomy(c.Maker, post(-7))
		memory, picks := roomy(d.words(c.Memory), -7), roomy(d.picks(), -7)
		shown := func() string { return whole(c.Mover) + whole(c.Maker) + whole(memory) + whole(picks) }
		was := shown()
		core.Wrong(c)
		core.Races(c)
		got, _ := core.Run(c, memory, picks)
		again, _ := core.Run(c, memory, picks)
		told := fmt.Sprint(again)
		spoil(got, 5)
		if now := shown(); now != was {
			t.Fatalf("%s was handed in, and %s came back", was, now)
		}
		spoil(memory, 6)
		if now := fmt.Sprint(again); now != told {
			t.Fatalf("%s becomes %s with what was handed in", told, now)
		}
	}
	// Nothing to do, or nothing but to take.
	memory := w(1, 2)
	for _, c := range []api.Code{code(2, 2, nil, nil), code(2, 2, ins(load(0, 0, 1, 2)), nil)} {
		got, _ := core.Run(c, memory, nil)
		spoil(got, 9)
	}
	if !slices.Equal(memory, w(1, 2)) {
		t.Errorf("memory is %v now", memory)
	}
}

// lists are all lists of numbers in a graph.
func lists(g *api.Graph) []*[]int {
	out := []*[]int{&g.Outs}
	for k := range g.Nodes {
		n := &g.Nodes[k]
		out = append(out, &n.Args, &n.Op.Dims, &n.Op.At, &n.Op.Lo, &n.Op.Hi, &n.Op.Step)
	}
	return out
}

// E2: a graph is only read, the room behind it too; nothing of it is kept, and no two lists of an image share room.
func TestE2Compile(t *testing.T) {
	d := thrown(11)
	for range 500 {
		g := d.graph(10, kinds()...)
		g.Nodes = roomy(g.Nodes, fill(-7))
		for _, list := range lists(&g) {
			*list = roomy(*list, -7)
		}
		shown := func() string {
			out := whole(g.Nodes)
			for _, list := range lists(&g) {
				out += whole(*list)
			}
			return out
		}
		was := shown()
		im, _ := core.Compile(g, 64)
		again, _ := core.Compile(g, 64)
		if now := shown(); now != was {
			t.Fatalf("%s was handed in, and %s came back", was, now)
		}
		told := fmt.Sprint(im)
		if fmt.Sprint(again) != told {
			t.Fatalf("%s: another image comes the second time", was)
		}
		spoil(again.Code.Mover, post(-9))
		spoil(again.Code.Maker, post(-9))
		spoil(again.Ins, api.Place{At: -9})
		spoil(again.Outs, api.Place{At: -9})
		for _, list := range lists(&g) {
			spoil(*list, -9)
		}
		if now := fmt.Sprint(im); now != told {
			t.Fatalf("%s becomes %s", told, now)
		}
		apart(t, im.Code.Mover, im.Code.Maker, post(-1), post(-2))
		apart(t, im.Ins, im.Outs, api.Place{At: -1}, api.Place{At: -2})
	}
}

// apart: two lists share no room.
func apart[T comparable](t *testing.T, a, b []T, one, two T) {
	t.Helper()
	spoil(a, one)
	spoil(b, two)
	if slices.Contains(a[:cap(a)], two) {
		t.Error("two lists of an image share room")
	}
}

// E3: nil and a list without entries are the same.
func TestE3NilAndEmpty(t *testing.T) {
	for _, none := range [][]api.Ins{nil, {}, make([]api.Ins, 0, 3)} {
		for _, words := range [][]int64{nil, {}, make([]int64, 0, 3)} {
			for _, some := range [][]int{nil, {}, make([]int, 0, 3)} {
				wantRun(t, code(1, 0, none, ins(set(0, 1, 1))), words, some)
				wantRun(t, code(1, 0, ins(load(0, 0, 0, 0)), none), words, some)
				wantRun(t, tale(2, 2), w(7, 7), some, 0, 0)
				wantNoRace(t, code(1, 0, none, ins(set(0, 1, 1))))
				wantImages(t, api.Graph{Nodes: []api.Node{}, Outs: some})
				wantImages(t, last(api.Node{Op: api.Op{Kind: api.Fill, Dims: some, Value: 4}, Args: some}, on(sum(some...), 0)))
			}
		}
	}
}

// E1, E4: whatever code, memory and picks are handed in, nothing panics, and with an error there is nothing else.
func TestE1WhateverCode(t *testing.T) {
	d := thrown(12)
	told := map[api.Errno]int{}
	for range 20000 {
		c := d.upset(d.code(6))
		memory := d.words(min(max(c.Memory, 0), 20))
		if d.IntN(10) == 0 {
			memory = d.words(d.IntN(9))
		}
		picks := d.picks()
		err, want := wrongByHand(c), w()
		switch {
		case err != api.OK:
		case len(memory) != c.Memory:
			err = api.ErrShape
		default:
			want, err, _ = runByHand(c, memory, picks)
		}
		told[err]++
		if err != api.OK {
			wantNoRun(t, c, memory, picks, err)
		} else {
			wantRun(t, c, memory, picks, want...)
		}
		if t.Failed() {
			return
		}
	}
	for _, err := range []api.Errno{api.OK, api.ErrKind, api.ErrRange, api.ErrShape, api.ErrClash, api.ErrStuck} {
		if told[err] < 100 {
			t.Errorf("just these came: %v", told)
		}
	}
}

// E1, E4: whatever graph and pad are handed in, Compile tells the first thing that is wrong, and nothing else.
func TestE1WhateverGraph(t *testing.T) {
	d := thrown(13)
	told := map[api.Errno]int{}
	for range 5000 {
		g := d.graph(8, append(kinds(), api.Take)...)
		for _, list := range lists(&g) {
			if len(*list) > 0 && d.IntN(60) == 0 {
				*list = slices.Clone(*list)
				(*list)[d.IntN(len(*list))] = d.odd()
			}
		}
		if d.IntN(10) == 0 {
			g.Nodes[d.IntN(len(g.Nodes))].Op.Kind = d.odd()
		}
		pad := d.of(64, 64, 64, 100, 4096, 63, 4097, d.odd())
		err := graph.Wrong(g)
		if err == api.OK {
			tidy, _ := graph.Tidy(g)
			switch {
			case slices.ContainsFunc(tidy.Nodes, func(n api.Node) bool { return n.Op.Kind == api.Take || n.Op.Kind == api.Put }):
				err = api.ErrKind
			case pad < 64 || pad > 4096:
				err = api.ErrRange
			case weightByHand(g) > 1<<14:
				err = api.ErrMuch
			}
		}
		told[err]++
		if err != api.OK {
			wantNoImage(t, g, pad, err)
		} else {
			wantImage(t, g, pad)
		}
		if t.Failed() {
			return
		}
	}
	for _, err := range []api.Errno{api.OK, api.ErrKind, api.ErrRange, api.ErrShape, api.ErrOrder, api.ErrMany} {
		if told[err] < 20 {
			t.Errorf("just these came: %v", told)
		}
	}
}

// E1: several calls do not know of one another.
func TestE1AtTheSameTime(t *testing.T) {
	run := func() string {
		d := thrown(14)
		out := ""
		for range 100 {
			c := d.code(10)
			got, err := core.Run(c, d.words(c.Memory), d.picks())
			race, _ := core.Races(c)
			im, no := core.Compile(d.graph(6, kinds()...), 64)
			out += fmt.Sprint(core.Wrong(c), got, err, race, im, no)
		}
		return out
	}
	want := run()
	got := make([]string, 8)
	var group sync.WaitGroup
	for k := range got {
		group.Go(func() { got[k] = run() })
	}
	group.Wait()
	for _, s := range got {
		if s != want {
			t.Error("something else comes at the same time")
		}
	}
}
