package core_test

import (
	"slices"
	"testing"

	"adjoint/api"
)

// C2: how many words there may be.
func TestC2PadAndMemory(t *testing.T) {
	for _, c := range []struct {
		pad, memory int
		want        api.Errno
	}{
		{0, 0, api.OK}, {fullPad, fullMem, api.OK}, {1, 1, api.OK},
		{-1, 0, api.ErrRange}, {fullPad + 1, 0, api.ErrRange}, {least, 0, api.ErrRange}, {most, 0, api.ErrRange},
		{0, -1, api.ErrRange}, {0, fullMem + 1, api.ErrRange}, {0, least, api.ErrRange}, {0, most, api.ErrRange},
	} {
		wantWrong(t, code(c.pad, c.memory, nil, nil), c.want)
		wantWrong(t, code(c.pad, c.memory, ins(load(0, 0, 0, 0)), ins(set(0, 0, 0))), c.want)
	}
}

// C2: how many instructions there may be.
func TestC2HowMany(t *testing.T) {
	full, more := slices.Repeat(ins(post(0)), fullRun), slices.Repeat(ins(post(0)), fullRun+1)
	for engine := range 2 {
		wantWrong(t, of(engine, 1, full...), api.OK)
		wantWrong(t, of(engine, 1, more...), api.ErrMany)
	}
	waits, others := slices.Repeat(ins(wait(0)), fullRun), slices.Repeat(ins(wait(0)), fullRun+1)
	wantWrong(t, code(1, 1, full, waits), api.OK)
	wantWrong(t, code(1, 1, more, waits), api.ErrMany)
	wantWrong(t, code(1, 1, full, others), api.ErrMany)
	wantWrong(t, code(1, 1, others, more), api.ErrMany)
}

// C2: which engine has which instructions.
func TestC2Kinds(t *testing.T) {
	for _, what := range l(least, -1, 0, 1, 2, 3, 4, 5, 6, 7, 8, 9, 10, 11, 12, 13, 14, 15, 16, 1<<32+1, most) {
		for engine := range 2 {
			want := api.ErrKind
			if what == api.InsPost || what == api.InsWait || slices.Contains(own(engine), what) {
				want = api.OK
			}
			wantWrong(t, of(engine, 1, api.Ins{Do: what}), want)
			wantWrong(t, of(engine, 1, api.Ins{Do: what, N: 1}), want)
		}
	}
}

// C2: which semaphores there are; what else stands in a post or a wait means nothing.
func TestC2Semaphores(t *testing.T) {
	for engine := range 2 {
		for _, what := range l(api.InsPost, api.InsWait) {
			for _, sem := range l(0, 1, 14, 15) {
				wantWrong(t, of(engine, 0, api.Ins{Do: what, A: sem}), api.OK)
				wantWrong(t, of(engine, 0, api.Ins{Do: what, A: sem, B: most, C: least, N: -1, V: 7}), api.OK)
				wantWrong(t, of(engine, 0, api.Ins{Do: what, A: sem, B: least, C: most, N: fullPad + 1}), api.OK)
			}
			for _, sem := range l(-1, 16, 17, least, most, fullMem) {
				wantWrong(t, of(engine, fullPad, api.Ins{Do: what, A: sem}), api.ErrRange)
			}
		}
	}
}

// C2: how many words an instruction may have.
func TestC2N(t *testing.T) {
	for engine := range 2 {
		for _, what := range own(engine) {
			for _, n := range l(0, 1, fullPad) {
				wantWrong(t, of(engine, fullPad, api.Ins{Do: what, N: n}), api.OK)
			}
			for _, n := range l(-1, fullPad+1, least, most) {
				wantWrong(t, of(engine, fullPad, api.Ins{Do: what, N: n}), api.ErrRange)
			}
		}
	}
}

// C2: how great A, B and C may be, where no words are read and written, and even if they mean nothing.
func TestC2HowFar(t *testing.T) {
	for engine := range 2 {
		for _, what := range own(engine) {
			for field := range 3 {
				with := func(n int) api.Code {
					in := api.Ins{Do: what}
					*[]*int{&in.A, &in.B, &in.C}[field] = n
					return of(engine, 3, in)
				}
				for _, n := range l(-fullMem, -fullMem+1, -1, 3, 4, fullMem-1, fullMem) {
					want := api.OK
					// That one word is read and written all the same.
					if what == api.InsInner && field == 0 {
						want = api.ErrRange
					}
					wantWrong(t, with(n), want)
				}
				for _, n := range l(-fullMem-1, fullMem+1, least, most, least+1, most-1, 1<<62, -1<<62) {
					wantWrong(t, with(n), api.ErrRange)
				}
			}
		}
	}
	for _, n := range l(0, 1, 2) {
		wantWrong(t, maker(3, do(api.InsInner, n, -5, 99, 0)), api.OK)
	}
	wantWrong(t, maker(0, do(api.InsInner, 0, 0, 0, 0)), api.ErrRange)
}

// C2: words of the pad that are just there, and just not.
func TestC2WordsOfThePad(t *testing.T) {
	const pad = 9
	names := map[int]string{api.InsLoad: "A", api.InsStore: "A", api.InsSet: "A", api.InsMore: "AB"}
	for engine := range 2 {
		for _, what := range own(engine) {
			used := names[what]
			if used == "" {
				used = "ABC"
			}
			for _, n := range l(1, 2, 5, pad) {
				for field, name := range "ABC" {
					if engine == api.Mover && name != 'A' {
						continue
					}
					long := n
					if what == api.InsInner && name == 'A' {
						long = 1
					}
					for at := -3; at < pad+3; at++ {
						in := api.Ins{Do: what, N: n}
						*[]*int{&in.A, &in.B, &in.C}[field] = at
						want := api.OK
						if slices.Contains([]rune(used), name) && (at < 0 || at+long > pad) {
							want = api.ErrRange
						}
						wantWrong(t, of(engine, pad, in), want)
					}
				}
			}
		}
	}
	for engine := range 2 {
		for _, what := range own(engine) {
			wantWrong(t, of(engine, fullPad, api.Ins{Do: what, A: fullPad - 1, N: 1}), api.OK)
			wantWrong(t, of(engine, fullPad, api.Ins{Do: what, A: fullPad, N: 1}), api.ErrRange)
			wantWrong(t, of(engine, 0, api.Ins{Do: what, N: 1}), api.ErrRange)
		}
	}
	wantWrong(t, maker(fullPad, do(api.InsAdd, 1, 0, 0, fullPad)), api.ErrRange)
	wantWrong(t, maker(fullPad, do(api.InsInner, fullPad-1, 0, 0, fullPad)), api.OK)
	wantWrong(t, maker(fullPad, do(api.InsInner, fullPad-1, 0, 1, fullPad)), api.ErrRange)
}

// C2: words of memory that are just there, and just not.
func TestC2WordsOfMemory(t *testing.T) {
	for _, move := range []func(a, b, c, n int) api.Ins{load, store} {
		for _, c := range []struct {
			b, c, n, memory int
			want            api.Errno
		}{
			{0, 1, 1, 1, api.OK}, {0, 0, 1, 0, api.ErrRange}, {0, 0, 0, 0, api.OK},
			{0, 1, 5, 5, api.OK}, {0, 1, 5, 4, api.ErrRange}, {1, 1, 5, 5, api.ErrRange}, {-1, 1, 5, 5, api.ErrRange},
			{0, 3, 4, 10, api.OK}, {0, 3, 4, 9, api.ErrRange}, {-1, 3, 4, 10, api.ErrRange},
			{4, -1, 5, 5, api.OK}, {3, -1, 5, 5, api.ErrRange}, {5, -1, 5, 5, api.ErrRange},
			{9, -3, 4, 10, api.OK}, {8, -3, 4, 10, api.ErrRange}, {10, -3, 4, 10, api.ErrRange},
			{4, 0, 5, 5, api.OK}, {5, 0, 5, 5, api.ErrRange}, {-1, 0, 5, 5, api.ErrRange},
			{4, fullMem, 1, 5, api.OK}, {0, -fullMem, 1, 1, api.OK}, {0, fullMem, 2, fullMem, api.ErrRange}, {0, -fullMem, 2, 5, api.ErrRange},
			{5, 1, 1, 5, api.ErrRange}, {-1, 1, 1, 5, api.ErrRange}, {5, 1, 0, 5, api.OK}, {-1, 1, 0, 5, api.OK},
			{fullMem, fullMem, 5, fullMem, api.ErrRange}, {-fullMem, -fullMem, 5, fullMem, api.ErrRange},
			{fullMem - 1, 0, 5, fullMem, api.OK}, {fullMem, 0, 1, fullMem, api.ErrRange},
		} {
			wantWrong(t, code(5, c.memory, ins(move(0, c.b, c.c, c.n)), nil), c.want)
		}
		wantWrong(t, code(fullPad, fullMem, ins(move(0, 0, 256, fullPad)), nil), api.OK)
		wantWrong(t, code(fullPad, fullMem, ins(move(0, 255, 256, fullPad)), nil), api.OK)
		wantWrong(t, code(fullPad, fullMem, ins(move(0, 256, 256, fullPad)), nil), api.ErrRange)
		wantWrong(t, code(fullPad, fullMem, ins(move(0, 0, fullMem, fullPad)), nil), api.ErrRange)
	}
}

// C2: each of the ways in which a semaphore clashes, and those in which it does not.
func TestC2Clash(t *testing.T) {
	for sem := range allSems {
		other := (sem + 1) % allSems
		wantWrong(t, code(1, 1, ins(post(sem)), ins(post(sem))), api.ErrClash)
		wantWrong(t, code(1, 1, ins(wait(sem)), ins(wait(sem))), api.ErrClash)
		for engine := range 2 {
			wantWrong(t, of(engine, 1, post(sem), wait(sem)), api.ErrClash)
			wantWrong(t, of(engine, 1, wait(sem), post(sem)), api.ErrClash)
			wantWrong(t, of(engine, 1, post(sem), wait(other)), api.OK)
			wantWrong(t, of(engine, 1, post(sem), post(sem)), api.OK)
			wantWrong(t, of(engine, 1, wait(sem), wait(sem)), api.OK)
		}
		wantWrong(t, code(1, 1, ins(post(sem)), ins(wait(sem))), api.OK)
		wantWrong(t, code(1, 1, ins(wait(sem)), ins(post(sem))), api.OK)
		wantWrong(t, code(1, 1, ins(post(sem), wait(other)), ins(wait(sem), post(other))), api.OK)
		wantWrong(t, code(1, 1, ins(post(sem)), ins(post(other))), api.OK)
		wantWrong(t, code(1, 1, ins(wait(sem)), ins(wait(other))), api.OK)
		wantWrong(t, code(1, 1, ins(post(other), post(sem)), ins(wait(other), set(0, 1, 1), post(sem))), api.ErrClash)
	}
	all := func(of func(int) api.Ins) []api.Ins {
		var out []api.Ins
		for sem := range allSems {
			out = append(out, of(sem))
		}
		return out
	}
	wantWrong(t, code(1, 1, all(post), all(wait)), api.OK)
	wantWrong(t, code(1, 1, all(wait), all(post)), api.OK)
	wantWrong(t, code(1, 1, all(post), append(all(wait), post(15))), api.ErrClash)
}

// E4: which error is told first.
func TestC2WhichFirst(t *testing.T) {
	none, far := api.Ins{Do: 15}, post(16)
	many := slices.Repeat(ins(none), fullRun+1)
	clash := []api.Ins{post(3), wait(3)}
	wantWrong(t, code(-1, 1, many, ins(none)), api.ErrRange)
	wantWrong(t, code(1, fullMem+1, many, clash), api.ErrRange)
	wantWrong(t, code(1, 1, many, ins(far)), api.ErrMany)
	wantWrong(t, code(1, 1, ins(far), many), api.ErrMany)
	// Instruction by instruction, those of the mover first.
	wantWrong(t, code(1, 1, ins(none, far), nil), api.ErrKind)
	wantWrong(t, code(1, 1, ins(far, none), nil), api.ErrRange)
	wantWrong(t, code(1, 1, ins(load(0, 0, 0, 0), none), ins(far)), api.ErrKind)
	wantWrong(t, code(1, 1, ins(load(0, 0, 0, 0), far), ins(none)), api.ErrRange)
	wantWrong(t, code(1, 1, nil, ins(none, far)), api.ErrKind)
	wantWrong(t, code(1, 1, nil, ins(far, none)), api.ErrRange)
	// Of one instruction the kind, whatever else is wrong with it.
	wantWrong(t, mover(1, api.Ins{Do: api.InsSet, A: most, N: -1}), api.ErrKind)
	wantWrong(t, maker(1, api.Ins{Do: api.InsLoad, A: most, N: -1}), api.ErrKind)
	wantWrong(t, maker(1, api.Ins{Do: 0, A: most, N: -1}), api.ErrKind)
	// Then the clash.
	wantWrong(t, code(1, 1, clash, ins(set(0, 1, 1), none)), api.ErrKind)
	wantWrong(t, code(1, 1, clash, ins(far)), api.ErrRange)
	wantWrong(t, code(1, 1, append(slices.Clone(clash), none), nil), api.ErrKind)
	wantWrong(t, code(1, 1, append(slices.Clone(clash), load(1, 0, 0, 1)), nil), api.ErrRange)
	// Then the words of memory.
	wantNoRun(t, code(1, 1, clash, nil), w(1, 2), nil, api.ErrClash)
	wantNoRun(t, code(1, 1, ins(wait(0)), nil), w(1, 2), nil, api.ErrShape)
	wantNoRun(t, code(1, 1, ins(wait(0)), nil), w(1), nil, api.ErrStuck)
}

// odd is a number that may be anything.
func (d dice) odd() int {
	if d.IntN(4) > 0 {
		return d.IntN(14) - 2
	}
	return d.of(least, -fullMem-1, -fullMem, -1, 15, 16, fullPad, fullPad+1, fullMem, fullMem+1, most)
}

// upset makes something of code that may be wrong.
func (d dice) upset(c api.Code) api.Code {
	if d.IntN(20) == 0 {
		c.Pad = d.odd()
	}
	if d.IntN(20) == 0 {
		c.Memory = d.odd()
	}
	change := func(all []api.Ins) []api.Ins {
		all = slices.Clone(all)
		for k := range all {
			in := &all[k]
			fields := []*int{&in.Do, &in.A, &in.B, &in.C, &in.N}
			if d.IntN(8) == 0 {
				*fields[d.IntN(5)] = d.odd()
			}
		}
		return all
	}
	c.Mover, c.Maker = change(c.Mover), change(c.Maker)
	if d.IntN(8) == 0 {
		c.Mover = append(c.Mover, api.Ins{Do: d.of(api.InsPost, api.InsWait), A: d.IntN(4)})
	}
	if d.IntN(20) == 0 {
		c.Mover, c.Maker = c.Maker, c.Mover
	}
	return c
}

// C2: dice-thrown code, against its words.
func TestC2Thrown(t *testing.T) {
	d := thrown(3)
	told := map[api.Errno]int{}
	for range 30000 {
		c := d.upset(d.code(d.of(1, 3, 6)))
		want := wrongByHand(c)
		told[want]++
		wantWrong(t, c, want)
		if t.Failed() {
			return
		}
	}
	if told[api.OK] < 1000 || told[api.ErrRange] < 1000 || told[api.ErrKind] < 1000 || told[api.ErrClash] < 200 {
		t.Errorf("just these came: %v", told)
	}
}
