package core_test

import (
	"fmt"
	"math"
	"math/rand/v2"
	"slices"
	"testing"

	"adjoint/api"
	"adjoint/core"
)

const (
	fullPad = 4096    // as many words as a pad may have
	fullMem = 1 << 20 // as many as memory may have
	fullRun = 1 << 18 // as many instructions as an engine may have
	allSems = 16
	most    = math.MaxInt
	least   = math.MinInt
	top     = math.MaxInt64
	low     = math.MinInt64
)

// l is a list.
func l(numbers ...int) []int { return numbers }

// w are words.
func w(numbers ...int64) []int64 { return numbers }

// ins is a list of instructions.
func ins(all ...api.Ins) []api.Ins { return all }

// load, store, post, wait, set and do are instructions.
func load(a, b, c, n int) api.Ins            { return api.Ins{Do: api.InsLoad, A: a, B: b, C: c, N: n} }
func store(a, b, c, n int) api.Ins           { return api.Ins{Do: api.InsStore, A: a, B: b, C: c, N: n} }
func post(sem int) api.Ins                   { return api.Ins{Do: api.InsPost, A: sem} }
func wait(sem int) api.Ins                   { return api.Ins{Do: api.InsWait, A: sem} }
func set(a, n int, v int64) api.Ins          { return api.Ins{Do: api.InsSet, A: a, N: n, V: v} }
func do(what, a, b, c, n int) api.Ins        { return api.Ins{Do: what, A: a, B: b, C: c, N: n} }
func more(a, b, n int) api.Ins               { return api.Ins{Do: api.InsMore, A: a, B: b, N: n} }
func mover(pad int, all ...api.Ins) api.Code { return api.Code{Pad: pad, Memory: 10, Mover: all} }
func maker(pad int, all ...api.Ins) api.Code { return api.Code{Pad: pad, Memory: 10, Maker: all} }

// code is code of both engines.
func code(pad, memory int, mover, maker []api.Ins) api.Code {
	return api.Code{Pad: pad, Memory: memory, Mover: mover, Maker: maker}
}

// own are the kinds of instructions that one engine alone has.
func own(engine int) []int {
	if engine == api.Mover {
		return l(api.InsLoad, api.InsStore)
	}
	return l(api.InsSet, api.InsAdd, api.InsSub, api.InsMul, api.InsMax, api.InsLess, api.InsPick, api.InsMac, api.InsInner, api.InsMore)
}

// of is code of one engine.
func of(engine, pad int, all ...api.Ins) api.Code {
	if engine == api.Mover {
		return mover(pad, all...)
	}
	return maker(pad, all...)
}

// cut is the beginning of what may be very long.
func cut(s string) string {
	if len(s) > 600 {
		return fmt.Sprintf("%.600s.. (%d bytes)", s, len(s))
	}
	return s
}

// show shows anything, cut.
func show(what ...any) string { return cut(fmt.Sprint(what...)) }

// wantWrong: this is wrong with code, and all calls say so, whatever else is handed in, and nothing else. (OK: nothing is.)
func wantWrong(t *testing.T, c api.Code, want api.Errno) {
	t.Helper()
	if got := core.Wrong(c); got != want {
		t.Errorf("Wrong of %s: %d comes, not %d", show(c), got, want)
	}
	race, err := core.Races(c)
	if err != want || err != api.OK && race != (api.Race{}) {
		t.Errorf("Races of %s: %v, %d comes, not %d", show(c), race, err, want)
	}
	if want == api.OK {
		return
	}
	for _, memory := range [][]int64{nil, make([]int64, min(max(c.Memory, 0), fullMem)), w(1, 2, 3)} {
		wantNoRun(t, c, memory, l(1), want)
	}
}

// wantRun: this is what memory is in the end.
func wantRun(t *testing.T, c api.Code, memory []int64, picks []int, want ...int64) {
	t.Helper()
	if got, err := core.Run(c, memory, picks); err != api.OK || !slices.Equal(got, want) {
		t.Errorf("%s with %s and %s: %s, %d comes, not %s", show(c), show(memory), show(picks), show(got), err, show(want))
	}
}

// wantNoRun: Run tells this error, and nothing else.
func wantNoRun(t *testing.T, c api.Code, memory []int64, picks []int, want api.Errno) {
	t.Helper()
	if got, err := core.Run(c, memory, picks); err != want || len(got) > 0 {
		t.Errorf("%s with %s and %s: %s, %d comes, not %d", show(c), show(memory), show(picks), show(got), err, want)
	}
}

// wantRace: this is the first pair in each other's way.
func wantRace(t *testing.T, c api.Code, mover, maker int) {
	t.Helper()
	if got, err := core.Races(c); err != api.OK || got != (api.Race{Any: true, Mover: mover, Maker: maker}) {
		t.Errorf("Races of %s: %v, %d comes, not %d, %d", show(c), got, err, mover, maker)
	}
}

// wantNoRace: there are none.
func wantNoRace(t *testing.T, c api.Code) {
	t.Helper()
	if got, err := core.Races(c); err != api.OK || got != (api.Race{}) {
		t.Errorf("Races of %s: %v, %d comes", show(c), got, err)
	}
}

// from are so many numbers, from one on.
func from(first, many int) []int {
	var out []int
	for i := range many {
		out = append(out, first+i)
	}
	return out
}

// touchedByHand are the words of the pad that an instruction reads and writes, by the words of C1.
func touchedByHand(in api.Ins) (reads, writes []int) {
	a, b, c := from(in.A, in.N), from(in.B, in.N), from(in.C, in.N)
	switch in.Do {
	case api.InsLoad, api.InsSet:
		return nil, a
	case api.InsStore:
		return a, nil
	case api.InsAdd, api.InsSub, api.InsMul, api.InsMax, api.InsLess:
		return slices.Concat(b, c), a
	case api.InsPick, api.InsMac:
		return slices.Concat(a, b, c), a
	case api.InsInner:
		return slices.Concat(l(in.A), b, c), l(in.A)
	case api.InsMore:
		return slices.Concat(a, b), a
	}
	return nil, nil
}

// wrongByHand is what is wrong with code, by the words of C2.
func wrongByHand(c api.Code) api.Errno {
	if !(0 <= c.Pad && c.Pad <= fullPad) || !(0 <= c.Memory && c.Memory <= fullMem) {
		return api.ErrRange
	}
	if len(c.Mover) > fullRun || len(c.Maker) > fullRun {
		return api.ErrMany
	}
	for _, in := range c.Mover {
		if err := insWrongByHand(c, in, api.Mover); err != api.OK {
			return err
		}
	}
	for _, in := range c.Maker {
		if err := insWrongByHand(c, in, api.Maker); err != api.OK {
			return err
		}
	}
	uses := func(all []api.Ins, in api.Ins) bool {
		return slices.ContainsFunc(all, func(one api.Ins) bool { return one.Do == in.Do && one.A == in.A })
	}
	for sem := range allSems {
		one, two := uses(c.Mover, post(sem)), uses(c.Maker, post(sem))
		three, four := uses(c.Mover, wait(sem)), uses(c.Maker, wait(sem))
		if one && two || three && four || one && three || two && four {
			return api.ErrClash
		}
	}
	return api.OK
}

// insWrongByHand is what is wrong with an instruction, by the words of C2.
func insWrongByHand(c api.Code, in api.Ins, engine int) api.Errno {
	if in.Do == api.InsPost || in.Do == api.InsWait {
		if in.A < 0 || in.A > allSems-1 {
			return api.ErrRange
		}
		return api.OK
	}
	if !slices.Contains(own(engine), in.Do) {
		return api.ErrKind
	}
	if in.N < 0 || in.N > fullPad {
		return api.ErrRange
	}
	for _, n := range l(in.A, in.B, in.C) {
		if n < -fullMem || n > fullMem {
			return api.ErrRange
		}
	}
	reads, writes := touchedByHand(in)
	for _, word := range append(reads, writes...) {
		if word < 0 || word >= c.Pad {
			return api.ErrRange
		}
	}
	for i := range in.N {
		if at := in.B + i*in.C; engine == api.Mover && (at < 0 || at >= c.Memory) {
			return api.ErrRange
		}
	}
	return api.OK
}

// stepByHand does an instruction of right code, by the words of C1.
func stepByHand(in api.Ins, pad, memory []int64, sems []int) {
	was := slices.Clone(pad)
	switch in.Do {
	case api.InsPost:
		sems[in.A]++
		return
	case api.InsWait:
		sems[in.A]--
		return
	case api.InsInner:
		for i := range in.N {
			pad[in.A] += was[in.B+i] * was[in.C+i]
		}
		return
	}
	for i := range in.N {
		switch in.Do {
		case api.InsLoad:
			pad[in.A+i] = memory[in.B+i*in.C]
		case api.InsStore:
			memory[in.B+i*in.C] = pad[in.A+i]
		case api.InsSet:
			pad[in.A+i] = in.V
		case api.InsAdd:
			pad[in.A+i] = was[in.B+i] + was[in.C+i]
		case api.InsSub:
			pad[in.A+i] = was[in.B+i] - was[in.C+i]
		case api.InsMul:
			pad[in.A+i] = was[in.B+i] * was[in.C+i]
		case api.InsMax:
			pad[in.A+i] = max(was[in.B+i], was[in.C+i])
		case api.InsLess:
			pad[in.A+i] = 0
			if was[in.B+i] < was[in.C+i] {
				pad[in.A+i] = 1
			}
		case api.InsPick:
			pad[in.A+i] = was[in.C+i]
			if was[in.A+i] != 0 {
				pad[in.A+i] = was[in.B+i]
			}
		case api.InsMac:
			pad[in.A+i] = was[in.A+i] + was[in.B+i]*was[in.C+i]
		case api.InsMore:
			pad[in.A+i] = was[in.A+i] + was[in.B+i]
		}
	}
}

// runByHand is Run of right code with memory that fits, by the words of C3; it tells, too, how often both engines could go on.
func runByHand(c api.Code, memory []int64, picks []int) (out []int64, err api.Errno, both int) {
	pad, sems := make([]int64, c.Pad), make([]int, allSems)
	out = slices.Clone(memory)
	left := [][]api.Ins{c.Mover, c.Maker}
	canGoOn := func(engine int) bool {
		all := left[engine]
		return len(all) > 0 && !(all[0].Do == api.InsWait && sems[all[0].A] == 0)
	}
	for {
		var next int
		switch one, two := canGoOn(api.Mover), canGoOn(api.Maker); {
		case one && two:
			if len(picks) > 0 && picks[both%len(picks)]&1 == 1 {
				next = api.Maker
			}
			both++
		case two:
			next = api.Maker
		case !one && len(left[0])+len(left[1]) > 0:
			return nil, api.ErrStuck, both
		case !one:
			return out, api.OK, both
		}
		stepByHand(left[next][0], pad, out, sems)
		left[next] = left[next][1:]
	}
}

// aheadByHand tells whether instruction x of one engine is ahead of instruction y of the other one, by the words of C4.
func aheadByHand(one []api.Ins, x int, two []api.Ins, y int) bool {
	times := make([]int, allSems)
	for _, in := range two[:y+1] {
		if in.Do != api.InsWait {
			continue
		}
		times[in.A]++
		var posts []int
		for k := range one {
			if one[k].Do == api.InsPost && one[k].A == in.A {
				posts = append(posts, k)
			}
		}
		if n := times[in.A]; len(posts) < n || x <= posts[n-1] {
			return true
		}
	}
	return false
}

// raceByHand is Races of right code, by the words of C4.
func raceByHand(c api.Code) api.Race {
	share := func(a, b []int) bool {
		return slices.ContainsFunc(a, func(word int) bool { return slices.Contains(b, word) })
	}
	for i := range c.Mover {
		for k := range c.Maker {
			if aheadByHand(c.Mover, i, c.Maker, k) || aheadByHand(c.Maker, k, c.Mover, i) {
				continue
			}
			reads, writes := touchedByHand(c.Mover[i])
			itsReads, itsWrites := touchedByHand(c.Maker[k])
			if share(writes, append(itsReads, itsWrites...)) || share(itsWrites, append(reads, writes...)) {
				return api.Race{Any: true, Mover: i, Maker: k}
			}
		}
	}
	return api.Race{}
}

// dice are thrown the same way each time.
type dice struct{ *rand.Rand }

func thrown(seed uint64) dice { return dice{rand.New(rand.NewPCG(13, seed))} }

func (d dice) of(all ...int) int { return all[d.IntN(len(all))] }

// word is any number, small or as great as it can be.
func (d dice) word() int64 {
	switch d.IntN(4) {
	case 0:
		return int64(d.Uint64())
	case 1:
		return []int64{low, low + 1, -1 << 32, -1, 0, 1, 1 << 32, -3 << 61, top - 1, top}[d.IntN(10)]
	}
	return int64(d.IntN(9)) - 4
}

// words are so many of them.
func (d dice) words(many int) []int64 {
	out := make([]int64, many)
	for k := range out {
		out[k] = d.word()
	}
	return out
}

// picks are some.
func (d dice) picks() []int {
	out := make([]int, d.IntN(6))
	for k := range out {
		out[k] = d.of(0, 1, 0, 1, 2, 3, -1, -2, -3, least, most, 1<<40)
	}
	return out
}

// in is a right instruction of an engine, over a pad and a memory of so many words (at least 6).
func (d dice) in(engine, pad, memory int) api.Ins {
	kinds := own(engine)
	n := d.of(0, 1, 1, 2, 2, 3)
	at := func() int { return d.IntN(pad - n + 1) }
	in := api.Ins{Do: kinds[d.IntN(len(kinds))], A: at(), B: at(), C: at(), N: n, V: d.word()}
	if in.Do == api.InsInner {
		in.A = d.IntN(pad)
	}
	if engine == api.Mover {
		in.B, in.C = d.IntN(memory), d.IntN(5)-2
		for n > 0 && (in.B+(n-1)*in.C < 0 || in.B+(n-1)*in.C >= memory) {
			in.B, in.C = d.IntN(memory), d.IntN(5)-2
		}
	}
	return in
}

// engine is right code of an engine: it posts semaphores that go from it, and waits on those that go to it.
func (d dice) engine(engine, pad, memory, longest, sems int) []api.Ins {
	var out []api.Ins
	for range d.IntN(longest + 1) {
		sem := d.IntN(sems)
		switch {
		case d.IntN(3) > 0:
			out = append(out, d.in(engine, pad, memory))
		case sem%2 == engine:
			out = append(out, post(sem))
		default:
			out = append(out, wait(sem))
		}
	}
	return out
}

// code is right code.
func (d dice) code(longest int) api.Code {
	pad, memory, sems := 6+d.IntN(6), 6+d.IntN(6), d.of(1, 2, 2, 4)
	return code(pad, memory, d.engine(api.Mover, pad, memory, longest, sems), d.engine(api.Maker, pad, memory, longest, sems))
}
