package core_test

import (
	"slices"
	"testing"

	"adjoint/api"
	"adjoint/core"
)

// C4: code without semaphores: whatever is written by one must not be touched by the other.
func TestC4NoSemaphores(t *testing.T) {
	wantNoRace(t, code(9, 9, nil, nil))
	wantNoRace(t, code(9, 9, ins(load(0, 0, 1, 9)), nil))
	wantNoRace(t, code(9, 9, nil, ins(set(0, 9, 1))))
	wantRace(t, code(9, 9, ins(load(0, 0, 1, 9)), ins(set(8, 1, 1))), 0, 0)
	wantRace(t, code(9, 9, ins(store(0, 0, 1, 9)), ins(set(8, 1, 1))), 0, 0)
	// Side by side.
	wantNoRace(t, code(9, 9, ins(load(0, 0, 1, 4), load(7, 0, 1, 2)), ins(set(4, 3, 1))))
	wantRace(t, code(9, 9, ins(load(0, 0, 1, 4), load(6, 0, 1, 2)), ins(set(4, 3, 1))), 1, 0)
	wantRace(t, code(9, 9, ins(load(0, 0, 1, 5), load(6, 0, 1, 2)), ins(set(4, 3, 1))), 0, 0)
}

// C4: which words each instruction reads and writes.
func TestC4WhichWords(t *testing.T) {
	const pad, a, b, c, n = 20, 2, 7, 12, 3
	for _, what := range own(api.Maker) {
		in := do(what, a, b, c, n)
		reads, writes := touchedByHand(in)
		for word := range pad {
			loads, stores := code(pad, 1, ins(load(word, 0, 0, 1)), ins(in)), code(pad, 1, ins(store(word, 0, 0, 1)), ins(in))
			if slices.Contains(append(slices.Clone(reads), writes...), word) {
				wantRace(t, loads, 0, 0)
			} else {
				wantNoRace(t, loads)
			}
			if slices.Contains(writes, word) {
				wantRace(t, stores, 0, 0)
			} else {
				wantNoRace(t, stores)
			}
		}
	}
}

// C4: words that both only read are in nobody's way.
func TestC4BothRead(t *testing.T) {
	for _, what := range own(api.Maker) {
		// It writes word 9 alone.
		in := do(what, 9, 0, 0, 1)
		wantNoRace(t, code(10, 10, ins(store(0, 0, 1, 9)), ins(in)))
		wantRace(t, code(10, 10, ins(store(0, 0, 1, 10)), ins(in)), 0, 0)
	}
	wantNoRace(t, code(10, 10, ins(store(0, 0, 1, 9)), ins(do(api.InsInner, 9, 0, 0, 9))))
	wantNoRace(t, code(10, 10, ins(store(4, 0, 1, 4)), ins(do(api.InsAdd, 0, 4, 4, 4))))
}

// C4: instructions that touch no word; Inner touches its one word even if it adds nothing.
func TestC4NoWords(t *testing.T) {
	for _, what := range own(api.Maker) {
		in := api.Ins{Do: what, A: 1, B: 1, C: 1}
		loads, stores := code(3, 3, ins(load(0, 0, 1, 3)), ins(in)), code(3, 3, ins(store(0, 0, 1, 3)), ins(in))
		if what == api.InsInner {
			wantRace(t, loads, 0, 0)
			wantRace(t, stores, 0, 0)
			wantNoRace(t, code(3, 3, ins(load(0, 0, 1, 1), load(2, 0, 1, 1)), ins(in)))
			continue
		}
		wantNoRace(t, loads)
		wantNoRace(t, stores)
	}
	wantNoRace(t, code(3, 3, ins(load(1, 0, 1, 0), store(1, 0, 1, 0)), ins(set(0, 3, 1))))
	// The numbers of semaphores are no words.
	wantNoRace(t, code(3, 3, ins(post(1), wait(2), load(1, 0, 1, 2)), ins(post(2), wait(1), set(0, 1, 0))))
}

// C4: what a wait and its post tell.
func TestC4Ahead(t *testing.T) {
	put, change := load(0, 0, 0, 1), set(0, 1, 1)
	// Ahead of the post, and behind the wait.
	wantNoRace(t, code(1, 1, ins(put, post(0)), ins(wait(0), change)))
	wantNoRace(t, code(1, 1, ins(put, put, post(0), post(0)), ins(wait(0), post(1), change, change)))
	wantNoRace(t, code(1, 1, ins(wait(0), put), ins(change, post(0))))
	// Behind the post, or ahead of the wait.
	wantRace(t, code(1, 1, ins(post(0), put), ins(wait(0), change)), 1, 1)
	wantRace(t, code(1, 1, ins(put, post(0)), ins(change, wait(0))), 0, 0)
	wantRace(t, code(1, 1, ins(put, wait(0)), ins(change, post(0))), 0, 0)
	wantRace(t, code(1, 1, ins(wait(0), put), ins(post(0), change)), 1, 1)
	// Another semaphore's post tells nothing.
	wantRace(t, code(1, 1, ins(put, post(1), post(0), put), ins(wait(0), change)), 3, 1)
	wantRace(t, code(1, 1, ins(post(0), put, post(1)), ins(wait(0), change, wait(1))), 1, 1)
	// There and back.
	wantNoRace(t, code(1, 1, ins(put, post(0), wait(1), put), ins(wait(0), change, post(1))))
	wantRace(t, code(1, 1, ins(put, post(0), wait(1), put), ins(wait(0), change, post(1), change)), 3, 3)
	wantNoRace(t, code(1, 1, ins(put, post(0), wait(1), put, post(0)), ins(wait(0), change, post(1), wait(0), change)))
	// An earlier wait may tell more than a later one.
	wantNoRace(t, code(1, 1, ins(post(2), put, post(0)), ins(wait(0), wait(2), change)))
	wantNoRace(t, code(1, 1, ins(post(2), put, post(0)), ins(wait(2), wait(0), change)))
	wantRace(t, code(1, 1, ins(post(2), put, post(0)), ins(wait(2), change, wait(0))), 1, 1)
}

// C4: several posts and waits on one semaphore: the n-th wait is for the n-th post.
func TestC4Several(t *testing.T) {
	put, change := load(0, 0, 0, 1), set(0, 1, 1)
	mover := ins(post(0), put, post(0), post(0))
	wantRace(t, code(1, 1, mover, ins(wait(0), change)), 1, 1)
	wantNoRace(t, code(1, 1, mover, ins(wait(0), wait(0), change)))
	wantNoRace(t, code(1, 1, mover, ins(wait(0), wait(0), wait(0), change)))
	wantRace(t, code(1, 1, mover, ins(wait(0), change, wait(0))), 1, 1)
	wantNoRace(t, code(1, 1, ins(wait(4), wait(4), put), ins(post(4), change, post(4))))
	wantRace(t, code(1, 1, ins(wait(4), put, wait(4)), ins(post(4), change, post(4))), 1, 1)
	wantRace(t, code(1, 1, ins(wait(4), wait(4), put), ins(post(4), post(4), change)), 2, 2)
}

// C4: a wait that is never posted: all that the other engine has is ahead of what comes behind it.
func TestC4NeverPosted(t *testing.T) {
	put, change := load(0, 0, 0, 1), set(0, 1, 1)
	wantNoRace(t, code(1, 1, ins(put, put), ins(wait(0), change)))
	wantNoRace(t, code(1, 1, ins(wait(0), put), ins(change, change)))
	wantNoRace(t, code(1, 1, ins(post(0), put, put), ins(wait(0), wait(0), change)))
	wantRace(t, code(1, 1, ins(post(0), put, put), ins(wait(0), change, wait(0), change)), 1, 1)
	wantRace(t, code(1, 1, ins(put, wait(0), put), ins(change, change)), 0, 0)
	// Both wait for ever.
	wantNoRace(t, code(1, 1, ins(wait(0), put), ins(wait(1), change)))
	wantNoRace(t, code(1, 1, ins(wait(0), put, post(1)), ins(wait(1), change, post(0))))
}

// C4: of several pairs that of the mover's first instruction, and of those that of the maker's first one.
func TestC4WhichPair(t *testing.T) {
	a, b := load(0, 0, 0, 1), load(1, 0, 0, 1)
	one, two := set(0, 1, 1), set(1, 1, 1)
	wantRace(t, code(2, 1, ins(a, b), ins(two, one)), 0, 1)
	wantRace(t, code(2, 1, ins(b, a), ins(two, one)), 0, 0)
	wantRace(t, code(2, 1, ins(b, a), ins(set(0, 0, 0), one, one, two, two)), 0, 3)
	wantRace(t, code(3, 1, ins(load(2, 0, 0, 1), a, b), ins(two, two, one, one)), 1, 2)
	// The first that neither is ahead of.
	wantRace(t, code(2, 1, ins(a, post(0), b), ins(two, wait(0), one, two)), 2, 0)
	wantRace(t, code(2, 1, ins(wait(0), a, b), ins(one, post(0), two, one, one)), 1, 3)
	// The last one of each, of as many as there may be.
	many := func(last api.Ins) []api.Ins { return append(slices.Repeat(ins(post(0)), fullRun-1), last) }
	c := code(2, 1, many(a), nil)
	c.Maker = append(slices.Repeat(ins(set(1, 1, 1)), fullRun-1), one)
	wantRace(t, c, fullRun-1, fullRun-1)
}

// C4: as many instructions as there may be, that read the same words.
func TestC4Great(t *testing.T) {
	const many, pad = fullRun, 500
	c := code(pad, pad, slices.Repeat(ins(store(0, 0, 1, pad-1)), many), slices.Repeat(ins(do(api.InsInner, pad-1, 0, 0, 200)), many))
	wantNoRace(t, c)
	c.Mover[many-1].A = 1
	wantRace(t, c, many-1, 0)
}

// C4: dice-thrown code, against its words.
func TestC4Thrown(t *testing.T) {
	d := thrown(5)
	found := map[bool]int{}
	late := 0
	for range 20000 {
		c := d.code(d.of(3, 6, 12))
		want := raceByHand(c)
		found[want.Any]++
		if want.Mover > 1 && want.Maker > 1 {
			late++
		}
		if got, err := core.Races(c); err != api.OK || got != want {
			t.Fatalf("Races of %s: %v, %d comes, not %v", show(c), got, err, want)
		}
	}
	if found[true] < 3000 || found[false] < 3000 || late < 500 {
		t.Errorf("just these came: %v, %d of them late", found, late)
	}
}

// What is without a race has one outcome.
func TestWithoutARaceThereIsOneOutcome(t *testing.T) {
	d := thrown(6)
	same, turned := 0, 0
	for range 20000 {
		c := d.code(d.of(4, 8, 14))
		if race, _ := core.Races(c); race.Any {
			continue
		}
		memory := d.words(c.Memory)
		want, err := core.Run(c, memory, nil)
		for _, picks := range [][]int{l(1), l(0, 1), l(1, 0, 0, 1, 1), d.picks()} {
			got, other := core.Run(c, memory, picks)
			if other != err || !slices.Equal(got, want) {
				t.Fatalf("%s of %v: with %v %v, %d comes, without %v, %d", show(c), memory, picks, got, other, want, err)
			}
		}
		if _, _, both := runByHand(c, memory, nil); both > 1 && err == api.OK {
			turned++
		}
		same++
	}
	if same < 3000 || turned < 500 {
		t.Errorf("%d had one outcome, of %d both engines could go on", same, turned)
	}
}
