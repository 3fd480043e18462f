package split_test

import (
	"fmt"
	"runtime"
	"slices"
	"sync"
	"testing"
	"time"

	"adjoint/api"
	"adjoint/graph"
	"adjoint/split"
)

// roomy is a list with room behind it, in which something stands.
func roomy[T any](list []T, with T) []T {
	return append(slices.Clone(list), with, with, with)[:len(list)]
}

// whole shows a list with the room behind it.
func whole[T any](list []T) string { return fmt.Sprint(list[:cap(list)]) }

// spoil writes over a list, its spare room too.
func spoil[T any](list []T, with T) {
	list = list[:cap(list)]
	for k := range list {
		list[k] = with
	}
}

// opLists are all lists of an operation.
func opLists(op *api.Op) []*[]int { return []*[]int{&op.Dims, &op.At, &op.Lo, &op.Hi, &op.Step} }

// graphLists are all lists of numbers in a graph.
func graphLists(g *api.Graph) []*[]int {
	out := []*[]int{&g.Outs}
	for k := range g.Nodes {
		out = append(out, &g.Nodes[k].Args)
		out = append(out, opLists(&g.Nodes[k].Op)...)
	}
	return out
}

// partLists are all lists of numbers in a part.
func partLists(p *api.Part) []*[]int {
	out := []*[]int{&p.Outs, &p.How}
	for k := range p.Steps {
		out = append(out, &p.Steps[k].Args)
		out = append(out, opLists(&p.Steps[k].Op)...)
	}
	return out
}

// given is all that can be handed in, with room behind each list.
type given struct {
	g    api.Graph
	many int
	how  []int
	args []api.Array
}

// given is something that can be laid out.
func (d dice) given() given {
	many := d.of(1, 2, 2, 3, 4)
	g := d.graph(many, 1+d.IntN(3), d.IntN(8))
	how, args := d.how(g, many), d.arrays(paramDims(g))
	g.Nodes = roomy(g.Nodes, on(fill(-7)))
	for _, list := range graphLists(&g) {
		*list = roomy(*list, -7)
	}
	for k := range args {
		args[k] = of(roomy(args[k].Dims, -7), roomy(args[k].Data, -7)...)
		args[k].Data = roomy(args[k].Data, -7)
	}
	return given{g, many, roomy(how, -7), roomy(args, of(l(-7)))}
}

// shown tells all of it, with the room.
func (x *given) shown() string {
	out := whole(x.g.Nodes) + whole(x.how) + whole(x.args)
	for _, list := range graphLists(&x.g) {
		out += whole(*list)
	}
	for _, a := range x.args {
		out += whole(a.Dims) + whole(a.Data)
	}
	return out
}

// spoil writes over all of it.
func (x *given) spoil() {
	for _, list := range graphLists(&x.g) {
		spoil(*list, -9)
	}
	for _, a := range x.args {
		spoil(a.Dims, -9)
		spoil(a.Data, -9)
	}
	spoil(x.g.Nodes, on(fill(-9)))
	spoil(x.how, -9)
	spoil(x.args, of(l(-9)))
}

// E2: what is handed in is only read, the room behind it too, nothing of it is kept; and what a caller changes in an answer changes nothing that is told later.
func TestE2OnlyRead(t *testing.T) {
	d := thrown(20)
	for range 1500 {
		x := d.given()
		was := x.shown()
		p, err := split.Split(x.g, x.many, x.how)
		has, no := split.Run(x.g, x.many, x.how, x.args)
		words, none := split.Words(x.g, x.many, x.how)
		if err != api.OK || no != api.OK || none != api.OK {
			t.Fatalf("%s: %d, %d, %d", show(x.g), err, no, none)
		}
		if now := x.shown(); now != was {
			t.Fatalf("%s was handed in, and %s came back", short(was), short(now))
		}
		part, run := showPart(p), fmt.Sprint(has)
		for _, list := range partLists(&p) {
			spoil(*list, -9)
		}
		spoil(p.Steps, total(-9))
		for _, each := range has {
			for _, a := range each {
				spoil(a.Dims, -9)
				spoil(a.Data, -9)
			}
			spoil(each, of(l(-9)))
		}
		spoil(has, nil)
		if now := x.shown(); now != was {
			t.Fatalf("%s was handed in, and became %s with the answers", short(was), short(now))
		}
		p, _ = split.Split(x.g, x.many, x.how)
		has, _ = split.Run(x.g, x.many, x.how, x.args)
		again, _ := split.Words(x.g, x.many, x.how)
		if showPart(p) != part || fmt.Sprint(has) != run || again != words {
			t.Fatalf("%s: something else comes the second time", show(x.g))
		}
		x.spoil()
		if showPart(p) != part || fmt.Sprint(has) != run {
			t.Fatalf("%s becomes something else with what was handed in", short(part))
		}
	}
}

// E2: no two lists of an answer share anything, their spare room too.
func TestE2Apart(t *testing.T) {
	d := thrown(21)
	for range 1500 {
		x := d.given()
		p, _ := split.Split(x.g, x.many, x.how)
		lists := partLists(&p)
		for k, list := range lists {
			spoil(*list, k)
		}
		for k, list := range lists {
			if slices.ContainsFunc((*list)[:cap(*list)], func(n int) bool { return n != k }) {
				t.Fatalf("%s: two lists of the part share room", show(x.g))
			}
		}
		has, _ := split.Run(x.g, x.many, x.how, x.args)
		var all []api.Array
		for _, each := range has {
			all = append(all, each...)
		}
		for k, a := range all {
			spoil(a.Dims, k)
			spoil(a.Data, int64(k))
		}
		for k, a := range all {
			if slices.ContainsFunc(a.Dims[:cap(a.Dims)], func(n int) bool { return n != k }) ||
				slices.ContainsFunc(a.Data[:cap(a.Data)], func(n int64) bool { return n != int64(k) }) {
				t.Fatalf("%s: two arrays share room", show(x.g))
			}
		}
		for k, each := range has {
			spoil(each, of(l(k)))
		}
		for k, each := range has {
			if slices.ContainsFunc(each[:cap(each)], func(a api.Array) bool { return a.Dims[0] != k }) {
				t.Fatalf("%s: what the machines have of two steps shares room", show(x.g))
			}
		}
	}
}

// E2: one array may be handed in for several parameters.
func TestE2SharedArgs(t *testing.T) {
	a := upTo(2, 2)
	g := last(par(0, 2, 2), par(1, 2, 2), on(bare(api.Add), 0, 1), on(sum(0), 2))
	for _, how := range [][]int{l(0, 1), l(every, every), l(1, every)} {
		b := layByHand(t, g, 2, how)
		wantRun(t, g, 2, how, arrays(a, a), b.run(t, arrays(a, a)))
	}
	if !sameArrays(arrays(a), arrays(upTo(2, 2))) {
		t.Errorf("it is %v now", a)
	}
}

// E3: nil and a list without entries are the same.
func TestE3NilAndEmpty(t *testing.T) {
	for _, none := range [][]int{nil, {}, make([]int, 0, 3)} {
		for _, args := range [][]api.Array{nil, {}, make([]api.Array, 0, 3)} {
			g := last(api.Node{Op: api.Op{Kind: api.Fill, Dims: none, Value: 4}, Args: none}, on(sum(none...), 0))
			wantSplit(t, g, none, part(2, steps(local(fill(4)), local(sum(), 0)), l(1), l(every)))
			four := of(nil, 4)
			wantRun(t, g, 2, none, args, [][]api.Array{{four, four}, {four, four}})
			wantWords(t, g, 2, none, 0)
			empty := api.Graph{Nodes: []api.Node{}, Outs: none}
			wantSplit(t, empty, none, part(2, nil, nil, nil))
			wantRun(t, empty, 2, none, args, nil)
		}
		for _, data := range [][]int64{nil, {}, make([]int64, 0, 3)} {
			g := last(par(0, 0), on(flip(none...), 0))
			wantRun(t, g, 2, l(0), arrays(of(l(0), data...)), [][]api.Array{{of(l(0)), of(l(0))}, {of(l(0)), of(l(0))}})
		}
		one := of(none, 3)
		wantRun(t, last(par(0, none...)), 2, l(every), arrays(one), [][]api.Array{{one, one}})
	}
}

// odd is a number that may be anything.
func (d dice) odd() int {
	return d.of(least, -2, -1, 0, 1, 2, 3, 4, 7, crowd, crowd+1, 4096, 4097, 1<<32, most)
}

// wrongByHand is what the three calls say by the words of X2.
func wrongByHand(g api.Graph, many int, how []int) api.Errno {
	if err := graph.Wrong(g); err != api.OK {
		return err
	}
	if many < 1 || many > 16 {
		return api.ErrRange
	}
	all := paramDims(g)
	if len(how) != len(all) {
		return api.ErrMany
	}
	for k, h := range how {
		if h != -1 && (h < 0 || h >= len(all[k]) || all[k][h]%many != 0) {
			return api.ErrShape
		}
	}
	return api.OK
}

// E1, E4: whatever is handed in, nothing panics, the first thing that is wrong is told, and nothing else.
func TestE1Whatever(t *testing.T) {
	d := thrown(22)
	told := map[api.Errno]int{}
	for range 10000 {
		many := d.of(1, 2, 3, 4)
		g := d.graph(many, d.IntN(4), d.IntN(6))
		how := d.how(g, many)
		for _, list := range append(graphLists(&g), &how) {
			if len(*list) > 0 && d.IntN(60) == 0 {
				*list = slices.Clone(*list)
				(*list)[d.IntN(len(*list))] = d.odd()
			}
			if d.IntN(200) == 0 {
				*list = append(slices.Clone(*list), d.odd())
			}
		}
		if d.IntN(20) == 0 && len(g.Nodes) > 0 {
			g.Nodes[d.IntN(len(g.Nodes))].Op.Kind = d.odd()
		}
		if d.IntN(10) == 0 {
			many = d.odd()
		}
		if d.IntN(10) == 0 {
			how = append(how, d.odd())
		}
		err := wrongByHand(g, many, how)
		told[err]++
		if err != api.OK {
			wantErr(t, g, many, how, err)
		} else {
			wantByHand(t, d, g, many, how)
		}
		if t.Failed() {
			return
		}
	}
	for _, err := range []api.Errno{api.OK, api.ErrKind, api.ErrMany, api.ErrRange, api.ErrShape, api.ErrOrder} {
		if told[err] < 50 {
			t.Errorf("just these came: %v", told)
		}
	}
}

// talking are calls of Run in which machines talk in each way.
func talking() string {
	d := thrown(23)
	out := ""
	for range 60 {
		x := d.given()
		p, err := split.Split(x.g, x.many, x.how)
		has, no := split.Run(x.g, x.many, x.how, x.args)
		words, none := split.Words(x.g, x.many, x.how)
		out += fmt.Sprint(showPart(p), err, has, no, words, none)
	}
	return out
}

// E1: several calls do not know of one another.
func TestE1AtTheSameTime(t *testing.T) {
	want := talking()
	got := make([]string, 8)
	var group sync.WaitGroup
	for k := range got {
		group.Go(func() { got[k] = talking() })
	}
	group.Wait()
	for _, s := range got {
		if s != want {
			t.Error("something else comes at the same time")
		}
	}
}

// E1: nothing hangs on how many goroutines run at one time.
func TestE1OneAtATime(t *testing.T) {
	want := talking()
	for _, many := range l(1, 2, 3) {
		was := runtime.GOMAXPROCS(many)
		if talking() != want {
			t.Errorf("something else comes with %d", many)
		}
		runtime.GOMAXPROCS(was)
	}
}

// E1: the machines' goroutines have ended when Run has answered, whatever it answers.
func TestE1Ended(t *testing.T) {
	before := runtime.NumGoroutine()
	g := great()
	args := arrays(upTo(paramDims(g)[0]...), upTo(paramDims(g)[1]...))
	for range 3 {
		split.Run(g, crowd, l(0, 3), args)
		split.Run(g, crowd, l(0, 3), args[:1])
		split.Run(g, crowd+1, l(0, 3), args)
	}
	// One that has said that it is done may need a moment yet to be gone.
	for range 100 {
		if runtime.NumGoroutine() <= before {
			return
		}
		time.Sleep(time.Millisecond)
	}
	t.Errorf("there are %d goroutines, not %d", runtime.NumGoroutine(), before)
}
