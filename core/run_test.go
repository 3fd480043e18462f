package core_test

import (
	"slices"
	"testing"

	"adjoint/api"
	"adjoint/core"
)

// tale is code in which the mover stores so many times, and the maker counts as often: word i of memory is in the end how many instructions of the maker were done ahead of store i.
func tale(stores, counts int) api.Code {
	c := api.Code{Pad: 1, Memory: stores}
	for i := range stores {
		c.Mover = append(c.Mover, store(0, i, 1, 1))
	}
	for i := range counts {
		c.Maker = append(c.Maker, set(0, 1, int64(i+1)))
	}
	return c
}

// C3: memory must have as many words as the code says.
func TestC3Memory(t *testing.T) {
	for _, c := range []api.Code{code(1, 3, nil, nil), code(1, 3, ins(load(0, 2, 1, 1)), ins(set(0, 1, 1)))} {
		for _, memory := range [][]int64{nil, w(), w(1, 2), w(1, 2, 3, 4)} {
			wantNoRun(t, c, memory, nil, api.ErrShape)
		}
		wantRun(t, c, w(1, 2, 3), nil, 1, 2, 3)
	}
	wantNoRun(t, code(1, 0, nil, nil), w(1), nil, api.ErrShape)
	wantRun(t, code(1, 0, nil, nil), nil, nil)
	wantRun(t, code(0, 0, nil, nil), w(), l(1))
	if got, err := core.Run(code(0, fullMem, nil, nil), make([]int64, fullMem), nil); err != api.OK || len(got) != fullMem {
		t.Errorf("%d words and %d come", len(got), err)
	}
	wantNoRun(t, code(0, fullMem, nil, nil), make([]int64, fullMem-1), nil, api.ErrShape)
}

// C3: which engine goes on where both can.
func TestC3Picks(t *testing.T) {
	c := tale(4, 4)
	for _, x := range []struct {
		picks []int
		want  []int64
	}{
		{nil, w(0, 0, 0, 0)}, {l(0), w(0, 0, 0, 0)}, {l(2), w(0, 0, 0, 0)}, {l(-2), w(0, 0, 0, 0)}, {l(least), w(0, 0, 0, 0)},
		{l(1), w(4, 4, 4, 4)}, {l(3), w(4, 4, 4, 4)}, {l(-1), w(4, 4, 4, 4)}, {l(-3), w(4, 4, 4, 4)}, {l(most), w(4, 4, 4, 4)}, {l(least + 1), w(4, 4, 4, 4)},
		// They go round.
		{l(0, 1), w(0, 1, 2, 3)}, {l(1, 0), w(1, 2, 3, 4)}, {l(0, 1, 1), w(0, 2, 4, 4)}, {l(1, 1, 0), w(2, 4, 4, 4)}, {l(0, 0, 1), w(0, 0, 1, 1)},
		{l(-1, -2), w(1, 2, 3, 4)}, {l(-4, 7), w(0, 1, 2, 3)},
		// More than are needed.
		{l(1, 0, 0, 0, 0, 1, 1, 1, 1), w(1, 1, 1, 1)}, {l(0, 0, 0, 1, 0, 1, 1), w(0, 0, 0, 1)},
	} {
		wantRun(t, c, make([]int64, 4), x.picks, x.want...)
	}
	// At its end an engine can't go on.
	wantRun(t, tale(5, 2), make([]int64, 5), l(1, 0), 1, 2, 2, 2, 2)
	wantRun(t, tale(1, 9), w(7), l(1, 1, 1, 0), 3)
	wantRun(t, tale(3, 0), w(7, 8, 9), l(1), 0, 0, 0)
	wantRun(t, tale(0, 3), nil, l(0))
}

// C3: picks are used up only where both can go on.
func TestC3UsedUp(t *testing.T) {
	// The maker's first three instructions are its alone, as the mover waits.
	c := code(1, 4, ins(wait(0), store(0, 0, 1, 1), store(0, 1, 1, 1), store(0, 2, 1, 1), store(0, 3, 1, 1)),
		ins(set(0, 1, 1), set(0, 1, 2), post(0), set(0, 1, 3), set(0, 1, 4), set(0, 1, 5)))
	wantRun(t, c, make([]int64, 4), l(0), 2, 2, 2, 2)
	// The wait, a store, a count, then anew.
	wantRun(t, c, make([]int64, 4), l(0, 0, 1), 2, 3, 3, 4)
	wantRun(t, c, make([]int64, 4), l(1, 0, 0, 0), 3, 3, 4, 4)
	wantRun(t, c, make([]int64, 4), l(-1, 0, 0, 0), 3, 3, 4, 4)
	// The same the other way round: the maker waits at first.
	c = code(1, 4, ins(store(0, 0, 1, 1), post(1), store(0, 1, 1, 1), store(0, 2, 1, 1), store(0, 3, 1, 1)),
		ins(wait(1), set(0, 1, 1), set(0, 1, 2), set(0, 1, 3)))
	wantRun(t, c, w(9, 9, 9, 9), l(1), 0, 3, 3, 3)
	wantRun(t, c, w(9, 9, 9, 9), l(1, 1, 0), 0, 1, 3, 3)
	wantRun(t, c, w(9, 9, 9, 9), l(0, 1), 0, 0, 0, 1)
}

// C3: waits whose post came ahead, and waits whose post comes afterwards.
func TestC3Waits(t *testing.T) {
	c := code(2, 2, ins(load(0, 0, 1, 1), post(5), wait(9), store(1, 1, 1, 1)), ins(wait(5), do(api.InsAdd, 1, 0, 0, 1), post(9)))
	for _, picks := range [][]int{nil, l(0), l(1), l(0, 1), l(1, 0)} {
		wantRun(t, c, w(21, 0), picks, 21, 42)
	}
	// Posts are counted, each of the semaphores by itself.
	c = tale(3, 3)
	c.Mover = slices.Insert(c.Mover, 1, wait(0), wait(0), wait(3))
	c.Maker = slices.Insert(c.Maker, 1, post(0), post(3), post(0))
	wantRun(t, c, w(9, 9, 9), nil, 0, 1, 1)
	wantRun(t, c, w(9, 9, 9), l(1), 3, 3, 3)
	wantRun(t, c, w(9, 9, 9), l(1, 1, 0), 1, 3, 3)
	wantRun(t, c, w(9, 9, 9), l(1, 0, 0, 0), 1, 2, 2)
	// More posts than waits.
	c = code(1, 1, ins(post(1), post(1), post(1), wait(2), store(0, 0, 0, 1)), ins(wait(1), set(0, 1, 8), post(2), wait(1)))
	for _, picks := range [][]int{nil, l(1), l(0, 1)} {
		wantRun(t, c, w(0), picks, 8)
	}
	// As many posts as there may be.
	many := func(in api.Ins, last ...api.Ins) []api.Ins { return append(slices.Repeat(ins(in), fullRun-1), last...) }
	for _, picks := range [][]int{nil, l(1)} {
		wantRun(t, code(1, 1, many(post(0)), many(wait(0))), w(3), picks, 3)
	}
	c = code(1, 1, many(wait(15), store(0, 0, 0, 1)), many(post(15), set(0, 1, 1)))
	wantRun(t, c, w(3), nil, 0)
	wantRun(t, c, w(3), l(1), 1)
}

// C3: engines that get stuck.
func TestC3Stuck(t *testing.T) {
	for _, picks := range [][]int{nil, l(0), l(1), l(0, 1)} {
		for _, c := range []api.Code{
			// One is at its end, or has nothing to do.
			code(1, 2, ins(wait(0)), nil), code(1, 2, nil, ins(wait(0))),
			code(1, 2, ins(store(0, 0, 1, 1), wait(0), store(0, 1, 1, 1)), ins(set(0, 1, 1))),
			code(1, 2, ins(store(0, 0, 1, 1)), ins(set(0, 1, 1), wait(7))),
			code(1, 2, ins(post(0), post(0)), ins(wait(0), wait(0), wait(0))),
			code(1, 2, ins(post(1)), ins(wait(0))),
			// None is.
			code(1, 2, ins(wait(0), post(1)), ins(wait(1), post(0))),
			code(1, 2, ins(post(1), wait(0), wait(0)), ins(wait(1), post(0), wait(2))),
			code(1, 2, ins(wait(0)), ins(wait(1))),
		} {
			wantNoRun(t, c, w(1, 2), picks, api.ErrStuck)
		}
	}
}

// C3: code of no instructions, of one engine or both.
func TestC3NoInstructions(t *testing.T) {
	for _, picks := range [][]int{nil, l(0), l(1)} {
		wantRun(t, code(4, 2, nil, nil), w(1, 2), picks, 1, 2)
		wantRun(t, code(4, 2, nil, ins(set(0, 4, 4))), w(1, 2), picks, 1, 2)
		wantRun(t, code(4, 2, ins(store(0, 1, 1, 1)), nil), w(1, 2), picks, 1, 0)
	}
}

// C3: dice-thrown code, against its words.
func TestC3Thrown(t *testing.T) {
	d := thrown(4)
	told, turns := map[api.Errno]int{}, 0
	for range 20000 {
		c := d.code(d.of(2, 5, 12))
		memory, picks := d.words(c.Memory), d.picks()
		want, err, both := runByHand(c, memory, picks)
		told[err]++
		turns += both
		if err != api.OK {
			wantNoRun(t, c, memory, picks, err)
		} else {
			wantRun(t, c, memory, picks, want...)
		}
		if t.Failed() {
			return
		}
	}
	if told[api.OK] < 3000 || told[api.ErrStuck] < 3000 || turns < 20000 {
		t.Errorf("just these came: %v, and both could go on %d times", told, turns)
	}
}
