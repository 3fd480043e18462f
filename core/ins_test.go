package core_test

import (
	"slices"
	"testing"

	"adjoint/api"
	"adjoint/core"
)

// wantPad: the pad is like this, if an instruction of the maker is done while it is like that.
func wantPad(t *testing.T, in api.Ins, was []int64, want ...int64) {
	t.Helper()
	many := len(was)
	c := code(many, many, ins(load(0, 0, 1, many), post(0), wait(1), store(0, 0, 1, many)), ins(wait(0), in, post(1)))
	wantRun(t, c, was, nil, want...)
	wantRun(t, c, was, l(1), want...)
}

// C1: words of memory are taken, in either direction, all from one place, one, none.
func TestC1Load(t *testing.T) {
	memory := w(1, 2, 3, 4, 5, 6)
	see := func(in api.Ins, want ...int64) {
		t.Helper()
		c := code(4, 10, ins(in, store(0, 6, 1, 4)), nil)
		wantRun(t, c, append(slices.Clone(memory), 9, 9, 9, 9), nil, append(slices.Clone(memory), want...)...)
	}
	see(load(0, 0, 1, 4), 1, 2, 3, 4)
	see(load(0, 2, 1, 4), 3, 4, 5, 6)
	see(load(1, 1, 2, 3), 0, 2, 4, 6)
	see(load(0, 5, -1, 4), 6, 5, 4, 3)
	see(load(1, 4, -2, 3), 0, 5, 3, 1)
	see(load(0, 3, 0, 3), 4, 4, 4, 0)
	see(load(3, 1, 0, 1), 0, 0, 0, 2)
	see(load(2, 1, fullMem, 1), 0, 0, 2, 0)
	see(load(2, 1, -fullMem, 1), 0, 0, 2, 0)
	see(load(2, 1, 1, 0), 0, 0, 0, 0)
	see(load(-9, -7, -3, 0), 0, 0, 0, 0)
	see(load(fullMem, -fullMem, fullMem, 0), 0, 0, 0, 0)
}

// C1: words of the pad are put, in either direction, one behind the other into one place, one, none.
func TestC1Store(t *testing.T) {
	see := func(in api.Ins, want ...int64) {
		t.Helper()
		c := code(4, 10, ins(load(0, 0, 1, 4), in), nil)
		wantRun(t, c, w(1, 2, 3, 4, 9, 9, 9, 9, 9, 9), nil, append(w(1, 2, 3, 4), want...)...)
	}
	see(store(0, 4, 1, 4), 1, 2, 3, 4, 9, 9)
	see(store(1, 4, 2, 3), 2, 9, 3, 9, 4, 9)
	see(store(0, 9, -1, 4), 9, 9, 4, 3, 2, 1)
	see(store(2, 9, -4, 2), 9, 4, 9, 9, 9, 3)
	see(store(0, 5, 0, 4), 9, 4, 9, 9, 9, 9)
	see(store(0, 5, 0, 3), 9, 3, 9, 9, 9, 9)
	see(store(3, 9, fullMem, 1), 9, 9, 9, 9, 9, 4)
	see(store(3, 9, 1, 0), 9, 9, 9, 9, 9, 9)
	see(store(-1, 10, 1, 0), 9, 9, 9, 9, 9, 9)
	see(store(-fullMem, fullMem, -fullMem, 0), 9, 9, 9, 9, 9, 9)
}

// C1: at first all words of the pad are 0, and what was put stays there.
func TestC1ThePadAtFirst(t *testing.T) {
	wantRun(t, code(3, 3, ins(store(0, 0, 1, 3)), nil), w(7, 8, 9), nil, 0, 0, 0)
	wantRun(t, code(2, 3, ins(load(1, 0, 1, 1), store(0, 1, 1, 2)), nil), w(7, 8, 9), nil, 7, 0, 7)
}

// C1: each instruction of the maker, with words that lie apart.
func TestC1Apart(t *testing.T) {
	was := w(1, 0, -3, 5, 6, 7, 8, 2, 7, 9)
	see := func(in api.Ins, want ...int64) {
		t.Helper()
		wantPad(t, in, was, append(want, was[3:]...)...)
	}
	see(set(0, 3, 4), 4, 4, 4)
	see(set(1, 1, low), 1, low, -3)
	see(api.Ins{Do: api.InsSet, A: 0, B: -fullMem, C: fullMem, N: 2, V: top}, top, top, -3)
	see(do(api.InsAdd, 0, 3, 6, 3), 13, 8, 14)
	see(do(api.InsSub, 0, 3, 6, 3), -3, 4, 0)
	see(do(api.InsSub, 0, 6, 3, 3), 3, -4, 0)
	see(do(api.InsMul, 0, 3, 6, 3), 40, 12, 49)
	see(do(api.InsMax, 0, 3, 6, 3), 8, 6, 7)
	see(do(api.InsLess, 0, 3, 6, 3), 1, 0, 0)
	see(do(api.InsLess, 0, 6, 3, 3), 0, 1, 0)
	see(do(api.InsPick, 0, 3, 6, 3), 5, 2, 7)
	see(do(api.InsPick, 0, 3, 7, 3), 5, 7, 7)
	see(do(api.InsMac, 0, 3, 6, 3), 41, 12, 46)
	see(do(api.InsInner, 0, 3, 6, 3), 102, 0, -3)
	see(do(api.InsInner, 2, 3, 6, 3), 1, 0, 98)
	see(do(api.InsInner, 1, 3, 6, 1), 1, 40, -3)
	see(do(api.InsMore, 0, 3, fullMem, 3), 6, 6, 4)
	see(do(api.InsMore, 1, 4, -fullMem, 1), 1, 6, -3)
}

// C1: without words nothing changes, wherever they would be.
func TestC1NoWords(t *testing.T) {
	was := w(3, 4, 5)
	for _, what := range own(api.Maker) {
		for _, at := range l(0, 2, 3, 4, -1, fullMem, -fullMem) {
			in := api.Ins{Do: what, A: at, B: at, C: at, V: 9}
			if what == api.InsInner {
				in.A = 2
			}
			wantPad(t, in, was, was...)
		}
	}
}

// C1: as many words as there can be.
func TestC1MostWords(t *testing.T) {
	d := thrown(1)
	was := d.words(fullPad)
	for _, what := range own(api.Maker) {
		in := api.Ins{Do: what, N: fullPad, V: 9}
		want := slices.Clone(was)
		stepByHand(in, want, nil, nil)
		wantPad(t, in, was, want...)
	}
	memory := d.words(fullMem)
	c := code(fullPad, fullMem, ins(load(0, 1, 256, fullPad), store(0, fullMem-1, -255, fullPad)), nil)
	want := slices.Clone(memory)
	for i := range fullPad {
		want[fullMem-1-255*i] = memory[1+256*i]
	}
	if got, err := core.Run(c, memory, nil); err != api.OK || !slices.Equal(got, want) {
		t.Errorf("with all words something else comes, and %d", err)
	}
}

// C1: all is read before anything is written.
func TestC1Over(t *testing.T) {
	wantPad(t, do(api.InsAdd, 1, 0, 0, 3), w(1, 2, 3, 4), 1, 2, 4, 6)
	wantPad(t, do(api.InsAdd, 0, 1, 1, 3), w(1, 2, 3, 4), 4, 6, 8, 4)
	wantPad(t, do(api.InsAdd, 1, 1, 0, 3), w(1, 2, 3, 4), 1, 3, 5, 7)
	wantPad(t, do(api.InsAdd, 1, 0, 1, 3), w(1, 2, 3, 4), 1, 3, 5, 7)
	wantPad(t, do(api.InsSub, 1, 0, 1, 3), w(1, 2, 4, 8), 1, -1, -2, -4)
	wantPad(t, do(api.InsMul, 1, 0, 0, 3), w(2, 3, 4, 5), 2, 4, 9, 16)
	wantPad(t, do(api.InsMax, 1, 0, 1, 3), w(9, 1, 2, 3), 9, 9, 2, 3)
	wantPad(t, do(api.InsLess, 1, 0, 1, 3), w(1, 2, 3, 4), 1, 1, 1, 1)
	wantPad(t, do(api.InsPick, 1, 0, 0, 3), w(1, 2, 3, 4), 1, 1, 2, 3)
	wantPad(t, do(api.InsPick, 1, 0, 2, 2), w(5, 0, 7, 8), 5, 7, 0, 8)
	wantPad(t, do(api.InsMac, 1, 0, 0, 3), w(1, 2, 3, 4), 1, 3, 7, 13)
	wantPad(t, do(api.InsMac, 0, 0, 0, 4), w(1, 2, 3, -4), 2, 6, 12, 12)
	wantPad(t, more(1, 0, 3), w(1, 2, 3, 4), 1, 3, 5, 7)
	wantPad(t, more(0, 1, 3), w(1, 2, 3, 4), 3, 5, 7, 4)
	wantPad(t, more(0, 0, 4), w(1, 2, 3, 4), 2, 4, 6, 8)
}

// C1: Inner's one word may be one of those whose products it adds.
func TestC1InnerOver(t *testing.T) {
	wantPad(t, do(api.InsInner, 0, 0, 1, 3), w(2, 3, 4, 5), 2+6+12+20, 3, 4, 5)
	wantPad(t, do(api.InsInner, 1, 0, 1, 3), w(2, 3, 4, 5), 2, 3+6+12+20, 4, 5)
	wantPad(t, do(api.InsInner, 2, 0, 0, 4), w(2, 3, 4, 5), 2, 3, 4+4+9+16+25, 5)
	wantPad(t, do(api.InsInner, 3, 0, 3, 1), w(2, 3, 4, 5), 2, 3, 4, 5+10)
	wantPad(t, do(api.InsInner, 3, 0, 0, 3), w(2, 3, 4, 5), 2, 3, 4, 5+4+9+16)
}

// C1: numbers wrap round.
func TestC1Wraps(t *testing.T) {
	was := w(0, 0, top, low, 3<<61, 1, -1, 8)
	see := func(in api.Ins, one, two int64) {
		t.Helper()
		wantPad(t, in, was, append(w(one, two), was[2:]...)...)
	}
	see(do(api.InsAdd, 0, 2, 5, 2), low, top)
	see(do(api.InsSub, 0, 2, 6, 1), low, 0)
	see(do(api.InsSub, 0, 3, 5, 1), top, 0)
	see(do(api.InsMul, 0, 4, 7, 1), 0, 0)
	see(do(api.InsMul, 0, 3, 6, 1), low, 0)
	see(do(api.InsMac, 0, 2, 2, 2), 1, 0)
	see(do(api.InsInner, 1, 2, 6, 1), 0, -top)
	see(do(api.InsMax, 0, 2, 3, 1), top, 0)
	see(do(api.InsLess, 0, 3, 2, 1), 1, 0)
	wantPad(t, more(0, 1, 1), w(top, 1), low, 1)
	wantPad(t, do(api.InsInner, 0, 1, 1, 2), w(1, 1<<32, 3), 10, 1<<32, 3)
}

// C1: dice-thrown instructions, one behind the other, against its words.
func TestC1Thrown(t *testing.T) {
	d := thrown(2)
	for range 3000 {
		many := 6 + d.IntN(5)
		was := d.words(many)
		in := d.in(api.Maker, many, many)
		want := slices.Clone(was)
		stepByHand(in, want, nil, nil)
		wantPad(t, in, was, want...)
		var all []api.Ins
		pad, memory := make([]int64, many), slices.Clone(was)
		for range 4 {
			all = append(all, d.in(api.Mover, many, many))
			stepByHand(all[len(all)-1], pad, memory, nil)
		}
		wantRun(t, code(many, many, all, nil), was, nil, memory...)
		if t.Failed() {
			return
		}
	}
}
