package core_test

import (
	"slices"
	"testing"

	"adjoint/api"
	"adjoint/core"
	"adjoint/graph"
	"adjoint/slope"
	"adjoint/text"
)

// shapes are dimensions of all sorts.
func shapes() [][]int {
	return [][]int{nil, l(1), l(0), l(7), l(10), l(11), l(2, 3), l(3, 0), l(40, 1), l(1, 40), l(2, 1, 2), l(2, 0, 3), l(2, 2, 2, 2), l(1, 2, 1, 2, 3), l(1, 1, 2, 1, 3, 2), l(500), l(25, 30)}
}

// C5: a number everywhere.
func TestC5Fill(t *testing.T) {
	for _, dims := range shapes() {
		for _, n := range w(low, 0, 7, top) {
			wantImages(t, last(fill(n, dims...)))
		}
	}
}

// C5: entry by entry.
func TestC5EntryByEntry(t *testing.T) {
	for _, dims := range shapes() {
		one, two, three := par(0, dims...), par(1, dims...), par(2, dims...)
		for _, kind := range l(api.Add, api.Sub, api.Mul, api.Max, api.Less) {
			wantImages(t, last(one, two, node(kind, 0, 1)))
			wantImages(t, last(one, two, node(kind, 1, 0)))
			wantImages(t, last(one, node(kind, 0, 0)))
		}
		wantImages(t, last(one, two, three, node(api.Pick, 2, 0, 1)))
		wantImages(t, last(one, two, node(api.Less, 0, 1), node(api.Pick, 2, 1, 0)))
		wantImages(t, last(one, two, node(api.Pick, 0, 0, 1)))
	}
}

// C5: what a view of an array reads, and sums of it: each dimension in each place.
func TestC5Views(t *testing.T) {
	for _, dims := range shapes() {
		rank := len(dims)
		back, every, none, ones, twos := make([]int, rank), from(0, rank), make([]int, rank), slices.Repeat(l(1), rank), slices.Repeat(l(2), rank)
		for k := range back {
			back[k] = rank - 1 - k
		}
		ops := []api.Op{turn(back...), turn(every...), flip(every...), flip(), sum(every...), sum(), reform(size(dims)), slice(none, dims, ones), slice(none, dims, twos), slice(none, none, twos), slice(dims, dims, ones), pad(none, none, ones), pad(none, ones, twos), pad(twos, none, ones), spread(dims, every...)}
		for k := range rank {
			ops = append(ops, sum(k), flip(k), join(k), sum(slices.DeleteFunc(from(0, rank), func(i int) bool { return i == k })...))
		}
		if rank < 6 {
			ops = append(ops, spread(append(slices.Clone(dims), 3), every...), spread(append(l(3), dims...), from(1, rank)...))
		}
		for _, op := range ops {
			wantImages(t, last(par(0, dims...), on(op, 0)))
		}
	}
}

// C5: steps that are greater than those of an instruction can be.
func TestC5FarSteps(t *testing.T) {
	for _, op := range []api.Op{slice(l(0, 0), l(1, 4000), l(4096, 1)), slice(l(0, 0), l(1, 4000), l(4096, 4096)), pad(l(0, 0), l(0, 0), l(4096, 1))} {
		wantImages(t, last(par(0, 1, 4000), on(op, 0)))
	}
	for _, op := range []api.Op{slice(l(0, 0), l(4000, 1), l(4096, 4096)), slice(l(3, 0), l(4000, 1), l(3999, 4096)), pad(l(0, 0), l(0, 0), l(1, 4096))} {
		wantImages(t, last(par(0, 4000, 1), on(op, 0)))
	}
	wantImages(t, last(par(0, 1, 4000, 1), on(slice(l(0, 0, 0), l(1, 4000, 1), l(4096, 1, 4096)), 0)))
	wantImages(t, last(par(0, 1, 1, 3000), on(turn(2, 0, 1), 0), on(slice(l(0, 0, 0), l(3000, 1, 1), l(1, 4096, 4096)), 1)))
}

// C5: sums of products, of each form.
func TestC5Dot(t *testing.T) {
	for _, c := range []struct {
		a, b []int
		op   api.Op
	}{
		{nil, nil, dot(nil, nil, nil, nil)},
		{l(3), nil, dot(nil, nil, nil, nil)}, {nil, l(3), dot(nil, nil, nil, nil)},
		{l(30), l(25), dot(nil, nil, nil, nil)},
		{l(700), l(700), dot(l(0), l(0), nil, nil)}, {l(700), l(700), dot(nil, nil, l(0), l(0))},
		{l(1), l(1), dot(l(0), l(0), nil, nil)},
		{l(0), l(0), dot(l(0), l(0), nil, nil)}, {l(20, 0), l(0, 20), dot(l(1), l(0), nil, nil)}, {l(0, 3), l(3, 2), dot(l(1), l(0), nil, nil)},
		{l(2, 2), l(2, 2), dot(l(1), l(0), nil, nil)}, {l(2, 2), l(2, 2), dot(l(0), l(1), nil, nil)},
		{l(12, 15), l(15, 13), dot(l(1), l(0), nil, nil)}, {l(15, 12), l(13, 15), dot(l(0), l(1), nil, nil)},
		{l(4, 300), l(300), dot(l(1), l(0), nil, nil)}, {l(300), l(300, 4), dot(l(0), l(0), nil, nil)},
		{l(1000, 1), l(1), dot(l(1), l(0), nil, nil)}, {l(1), l(1, 1000), dot(l(0), l(0), nil, nil)},
		{l(5, 4, 3), l(5, 4, 3), dot(l(0, 1, 2), l(0, 1, 2), nil, nil)}, {l(5, 4, 3), l(3, 5, 4), dot(l(2, 0), l(0, 1), nil, nil)},
		{l(5, 4, 3), l(5, 4, 3), dot(l(2), l(2), l(1, 0), l(1, 0))}, {l(5, 4, 3), l(4, 3, 5), dot(l(1, 2), l(0, 1), l(0), l(2))},
		{l(5, 4, 3), l(5, 6, 3), dot(l(2), l(2), l(0), l(0))}, {l(3, 20), l(20, 3), dot(nil, nil, l(1, 0), l(0, 1))},
		{l(1, 2, 1, 2, 1, 2), l(2, 1, 2, 1, 2, 1), dot(l(1, 0, 3), l(0, 1, 2), nil, nil)},
		{l(2, 1, 2, 1, 2, 2), l(2, 1, 2, 1, 2, 2), dot(from(0, 6), from(0, 6), nil, nil)},
		{l(2, 1, 2, 1, 2, 2), l(2, 1, 2, 1, 2, 2), dot(from(3, 3), from(3, 3), from(0, 3), from(0, 3))},
	} {
		wantImages(t, last(par(0, c.a...), par(1, c.b...), on(c.op, 0, 1)))
		if slices.Equal(c.a, c.b) {
			wantImages(t, last(par(0, c.a...), on(c.op, 0, 0)))
		}
	}
}

// C5: one behind the other.
func TestC5Join(t *testing.T) {
	wantImages(t, last(par(0, 2, 3), par(1, 2, 4), on(join(1), 0, 1, 0)))
	wantImages(t, last(par(0, 2, 3), par(1, 1, 3), on(join(0), 1, 0, 1, 1)))
	wantImages(t, last(par(0, 5, 0), par(1, 5, 2), on(join(1), 0, 1, 0)))
	wantImages(t, last(par(0, 0), on(join(0), 0, 0)))
	wantImages(t, last(par(0, 100), par(1, 300), on(join(0), 0, 1)))
	wantImages(t, last(par(0, 1), on(join(0), make([]int, 120)...)))
	// Arrays without entries can be joined without end.
	wantImage(t, last(par(0, 0, 3), on(join(0), make([]int, 1<<18)...)), 64)
}

// C5: a Take or a Put that stays in the tidy graph, and one that does not.
func TestC5TakeAndPut(t *testing.T) {
	for _, n := range []api.Node{node(api.Take, 0, 1), on(put(4), 0, 1)} {
		for _, pad := range l(64, 4096) {
			wantNoImage(t, giving(l(2), par(0, 2), par(1, 2), n), pad, api.ErrKind)
			wantNoImage(t, giving(l(0, 3), par(0, 2), par(1, 2), n, on(sum(0), 2)), pad, api.ErrKind)
			wantNoImage(t, giving(l(1, 2), par(0, 0), par(1, 0), n), pad, api.ErrKind)
		}
		wantImages(t, giving(l(0), par(0, 2), par(1, 2), n))
		wantImages(t, giving(l(3), par(0, 2), par(1, 2), n, node(api.Add, 0, 1)))
	}
}

// C5: pads at and beyond both ends.
func TestC5Pads(t *testing.T) {
	g := last(par(0, 2, 3), par(1, 3, 2), on(dot(l(1), l(0), nil, nil), 0, 1))
	for _, pad := range l(63, 4097, 0, -1, -64, least, most) {
		wantNoImage(t, g, pad, api.ErrRange)
		wantNoImage(t, api.Graph{}, pad, api.ErrRange)
	}
	for pad := 64; pad < 140; pad++ {
		wantImage(t, g, pad)
		wantImage(t, last(par(0, 300), par(1, 300), node(api.Mul, 0, 1), on(sum(0), 2)), pad)
	}
	for _, pad := range l(2000, 4095, 4096) {
		wantImage(t, g, pad)
	}
}

// C5: graphs that weigh just as much as may be, and one more.
func TestC5Weight(t *testing.T) {
	whole := func(g api.Graph, weight int) {
		t.Helper()
		if got := weightByHand(g); got != weight {
			t.Fatalf("%s weighs %d", show(g), got)
		}
		if weight > 1<<14 {
			wantNoImage(t, g, 64, api.ErrMuch)
			wantNoImage(t, g, 4096, api.ErrMuch)
			return
		}
		wantImages(t, g)
	}
	// A parameter weighs what it has, be it needed or not.
	whole(giving(l(0), par(0, 4096, 4)), 1<<14)
	whole(giving(nil, par(0, 4096, 4)), 1<<14)
	whole(giving(nil, par(0, 4096, 4), par(1)), 1<<14+1)
	whole(giving(l(1), par(0, 4096, 4), par(1)), 1<<14+1)
	whole(giving(l(1, 0), par(0, 4096, 4), par(1, 0)), 1<<14)
	whole(giving(nil, par(0, 4096, 2), par(1, 4096, 2)), 1<<14)
	whole(giving(nil, par(0, 4096, 16)), 1<<16)
	whole(last(fill(1, 128, 128)), 1<<14)
	whole(giving(l(0, 1), fill(1, 128, 128), fill(2)), 1<<14+1)
	whole(giving(l(1), par(0), fill(1, 128, 128)), 1<<14+1)
	// What nobody needs weighs nothing, nor does what stands twice.
	whole(giving(l(1), par(0, 4), fill(1, 4095, 4), fill(1, 128, 128)), 1<<14)
	whole(giving(l(0, 1), fill(1, 128, 128), fill(1, 128, 128)), 1<<14)
	// What is given any number of times weighs nothing more.
	whole(giving(make([]int, 30), par(0, 4096, 4)), 1<<14)
	// Sums, products, copies.
	whole(giving(l(1, 2), par(0, 4095, 2), on(sum(0, 1), 0), fill(7, 3)), 1<<14)
	whole(giving(l(1, 2), par(0, 4095, 2), on(sum(0, 1), 0), fill(7, 4)), 1<<14+1)
	whole(giving(l(1, 2), par(0, 4096, 1), on(sum(1), 0), fill(7, 4096)), 1<<14)
	whole(giving(l(2, 3), par(0, 2730), par(1, 2730), on(dot(l(0), l(0), nil, nil), 0, 1), fill(7, 3)), 1<<14)
	whole(giving(l(2, 3), par(0, 2730), par(1, 2730), on(dot(l(0), l(0), nil, nil), 0, 1), fill(7, 4)), 1<<14+1)
	whole(giving(l(2, 3), par(0, 3276, 1), par(1, 1), on(dot(l(1), l(0), nil, nil), 0, 1), fill(7, 2)), 1<<14)
	whole(giving(l(1, 2), par(0, 2730, 2), on(turn(1, 0), 0), fill(7, 4)), 1<<14)
	whole(giving(l(1, 2), par(0, 3276), node(api.Pick, 0, 0, 0), fill(7, 4)), 1<<14)
	whole(last(par(0, 4096), node(api.Mul, 0, 0)), 1<<14)
	whole(last(par(0, 1), on(join(0), make([]int, 127)...)), 1<<14)
	whole(giving(l(1, 2), par(0, 1), on(join(0), make([]int, 127)...), fill(7)), 1<<14+1)
}

// C5: graphs that need as many instructions as there can be for what they weigh: sums of one number each time, and as many nodes as there may be.
func TestC5Long(t *testing.T) {
	wantImages(t, giving(l(1, 2), par(0, 4095, 2, 1), on(sum(0, 1), 0), fill(7, 3)))
	g := giving(nil, par(0, 1000, 1, 1, 1, 1, 1))
	for at := range 15 {
		op := sum(0)
		for bit := range 4 {
			if at>>bit&1 == 1 {
				op.At = append(op.At, bit+1)
			}
		}
		g.Nodes, g.Outs = append(g.Nodes, on(op, 0)), append(g.Outs, at+1)
	}
	wantImages(t, g)
	g = giving(nil)
	for k := range 4096 {
		g.Nodes, g.Outs = append(g.Nodes, fill(int64(k))), append(g.Outs, k)
	}
	wantImages(t, g)
	g = giving(l(4095), par(0))
	for k := range 4095 {
		g.Nodes = append(g.Nodes, node(l(api.Add, api.Sub, api.Max)[k%3], k, 0))
	}
	wantImages(t, g)
}

// C5: what a graph gives: parameters, nodes any number of times, nothing.
func TestC5Outs(t *testing.T) {
	two, other, add := par(0, 2), par(1, 2), node(api.Add, 0, 1)
	wantImages(t, giving(nil))
	wantImages(t, giving(nil, two, other, add))
	wantImages(t, giving(l(0), two))
	wantImages(t, giving(l(1, 0, 1), two, other))
	wantImages(t, giving(l(2, 0, 2, 1, 1), two, other, add))
	wantImages(t, giving(l(2, 2), two, other, add))
	wantImages(t, giving(l(2, 3), two, other, add, node(api.Mul, 2, 0)))
	// A parameter that is given stays as it is, and so does what is given early.
	wantImages(t, giving(l(0, 2, 5), par(0, 30), fill(3, 30), node(api.Mul, 0, 1), node(api.Add, 2, 0), node(api.Sub, 3, 1), node(api.Max, 4, 3)))
	// Nodes that are alike are one.
	wantImages(t, giving(l(2, 3), two, other, add, node(api.Add, 0, 1)))
}

// C5: arrays without entries.
func TestC5NoEntries(t *testing.T) {
	none := par(0, 3, 0)
	wantImages(t, last(none))
	wantImages(t, last(none, node(api.Add, 0, 0)))
	wantImages(t, last(none, on(sum(1), 0)))
	wantImages(t, last(none, on(sum(0), 0)))
	wantImages(t, last(none, on(pad(l(1, 2), l(0, 1), l(2, 3)), 0)))
	wantImages(t, last(none, on(spread(l(2, 3, 0), 1, 2), 0), on(sum(0, 1, 2), 1)))
	wantImages(t, last(none, par(1, 0, 3), on(dot(l(1), l(0), nil, nil), 0, 1)))
	wantImages(t, last(none, par(1, 3, 2), on(join(1), 0, 1, 0)))
	wantImages(t, last(none, on(turn(1, 0), 0), on(flip(0, 1), 1), on(reform(0), 2), on(slice(l(0), l(0), l(5)), 3)))
	wantImages(t, giving(l(0, 1, 2, 1), none, par(1, 0), par(2)))
	wantImages(t, giving(l(0), fill(3, 0)))
}

// E4: which error is told first.
func TestC5WhichFirst(t *testing.T) {
	take, heavy := node(api.Take, 0, 0), fill(1, 4096, 5)
	for _, pad := range l(63, 64, 4097) {
		wantNoImage(t, giving(l(0), make([]api.Node, 4097)...), pad, api.ErrMuch)
		wantNoImage(t, giving(l(1), par(0, 2), take, node(api.Add, 0, 3)), pad, api.ErrOrder)
		wantNoImage(t, giving(l(1), par(0, 2), take, par(2, 2)), pad, api.ErrForm)
		wantNoImage(t, giving(l(1), par(0, 2), take, node(api.Add, 0)), pad, api.ErrMany)
		wantNoImage(t, giving(l(0), par(0, 2), node(20, 0)), pad, api.ErrKind)
		wantNoImage(t, giving(l(1), par(0, 2), take, fill(0, 1, 1, 1, 1, 1, 1, 1)), pad, api.ErrRank)
		wantNoImage(t, giving(l(1), par(0, 2), take, fill(0, 3), node(api.Add, 0, 2)), pad, api.ErrShape)
		wantNoImage(t, giving(l(2), par(0, 2), take), pad, api.ErrRange)
		wantNoImage(t, giving(l(-1), par(0, 2), take, heavy), pad, api.ErrRange)
		wantNoImage(t, giving(l(1, 2), par(0, 2), take, heavy), pad, api.ErrKind)
	}
	wantNoImage(t, giving(l(2), par(0, 2), take, heavy), 63, api.ErrRange)
	wantNoImage(t, giving(l(2), par(0, 2), take, heavy), 4097, api.ErrRange)
	wantNoImage(t, giving(l(2), par(0, 2), take, heavy), 64, api.ErrMuch)
	wantImages(t, giving(l(0), par(0, 2), take, heavy))
}

// C5: it is the tidy graph that is compiled.
func TestC5NotTidy(t *testing.T) {
	odd := api.Node{Op: api.Op{Kind: api.Add, Dims: l(9), At: l(8), Lo: l(7), Hi: l(6), Step: l(5), Value: 4}, Args: l(0, 1)}
	plain := giving(l(2, 2), par(0, 2), fill(3, 2), node(api.Add, 0, 1))
	want, _ := core.Compile(plain, 64)
	for _, g := range []api.Graph{
		giving(l(2, 2), par(0, 2), fill(3, 2), odd),
		giving(l(5, 6), par(0, 2), fill(9, 7), fill(3, 2), node(api.Mul, 0, 2), fill(3, 2), node(api.Add, 0, 2), node(api.Add, 0, 4)),
	} {
		if got := wantImage(t, g, 64); show(got) != show(want) {
			t.Errorf("%s: %s comes, not %s", show(g), show(got), show(want))
		}
	}
}

// C5: programs, their slopes, and what is worth the same.
func TestC5Programs(t *testing.T) {
	p, f := text.Read(`
		fn layer(w: [n m], x: [m]) = max(dot{1}{0}(w, x), spread[n]{}(0));
		fn f(v: [k], w: [k n], x: [n]) = let y = layer(w, x) in sum{0}(v * y) * 2 - 1;
		fn g(v: [k], w: [k n], x: [n]) = repeat 3 a = x with pick(less(a, 5), a * a, a - dot{0}{0}(v, w));
	`)
	if f.Err != api.OK {
		t.Fatalf("it can't be read: %v", f)
	}
	for _, name := range []string{"f", "g"} {
		g, err := graph.Build(p, name, [][]int{{5}, {5, 7}, {7}})
		if err != api.OK {
			t.Fatalf("%s: %d", name, err)
		}
		wantImages(t, g)
		back, err := slope.Reverse(g)
		if err != api.OK {
			t.Fatalf("%s: %d", name, err)
		}
		wantImages(t, back)
		ahead, err := slope.Forward(g)
		if err != api.OK {
			t.Fatalf("%s: %d", name, err)
		}
		wantImages(t, ahead)
	}
}

// C5: dice-thrown graphs, each kind by itself, and all together.
func TestC5Thrown(t *testing.T) {
	d := thrown(8)
	seen, told := map[int]int{}, map[api.Errno]int{}
	for round := range 3000 {
		g := d.graph(4+d.IntN(12), kinds()[round%16])
		if round%2 == 0 {
			g = d.graph(4+d.IntN(20), kinds()...)
		}
		if weightByHand(g) > 1<<14 {
			told[api.ErrMuch]++
			wantNoImage(t, g, 64, api.ErrMuch)
			continue
		}
		told[api.OK]++
		tidy, _ := graph.Tidy(g)
		for _, n := range tidy.Nodes {
			seen[n.Op.Kind]++
		}
		wantImage(t, g, d.of(64, 64, 65, 66, 71, 100, 4096))
		if t.Failed() {
			return
		}
	}
	if told[api.OK] < 2000 || told[api.ErrMuch] < 10 || len(seen) != 17 {
		t.Errorf("these came: %v; of these kinds: %v", told, seen)
	}
	for kind, times := range seen {
		if times < 100 {
			t.Errorf("kind %d came %d times", kind, times)
		}
	}
}

// C5: dice-thrown graphs with Take and Put among others.
func TestC5ThrownTakeAndPut(t *testing.T) {
	d := thrown(9)
	told := map[api.Errno]int{}
	for range 1000 {
		g := d.graph(4+d.IntN(8), api.Take, api.Add, api.Sum, api.Join, api.Put)
		tidy, _ := graph.Tidy(g)
		barred := slices.ContainsFunc(tidy.Nodes, func(n api.Node) bool { return n.Op.Kind == api.Take || n.Op.Kind == api.Put })
		_, err := core.Compile(g, 64)
		told[err]++
		if barred != (err == api.ErrKind) {
			t.Fatalf("%v: %d comes", g, err)
		}
	}
	if told[api.OK] < 50 || told[api.ErrKind] < 50 {
		t.Errorf("just these came: %v", told)
	}
}
