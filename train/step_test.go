package train_test

import (
	"fmt"
	"slices"
	"testing"

	"adjoint/api"
)

// allPicks are picks of all kinds.
func allPicks() [][]int {
	return [][]int{
		nil, {}, l(0), l(1), l(-1), l(2, 1, 0), l(7, 3), l(-3, 5, 0, -8), l(most), l(least), l(least, most, least+1, most-1), l(240), slices.Repeat(l(1, 2), 1000),
	}
}

// W6: machines and picks make no difference, be there fewer rows than machines or more.
func TestW6MachinesAndPicks(t *testing.T) {
	for _, x := range lessons() {
		for _, batch := range l(1, 2, 5, 20) {
			c := x.taught(thrown(1), 2*batch, batch, 1)
			for machines := 1; machines <= crowd; machines++ {
				if machines > 5 && machines < 15 {
					continue
				}
				for _, picks := range allPicks() {
					d, own := c.disk(), c.disk()
					trainer, h := c.open(t, d, machines), c.openByHand(own, machines)
					for range 3 {
						wantStep(t, trainer, picks, -1, h.step(-1))
					}
					wantAlike(t, trainer, d, h)
					if t.Failed() {
						t.Fatalf("%d machines, batch %d, picks %s", machines, batch, short(picks))
					}
				}
			}
		}
	}
}

// W6: a machine falls at each number of notes below that of all; from then on the trainer is broken, and nothing was put.
func TestW6Fall(t *testing.T) {
	c := named(t, "line").taught(thrown(2), 4, 2, 1)
	for machines := 1; machines <= crowd; machines++ {
		notes := 2 * machines * (machines - 1)
		falls := l(least, least+1, -2, -1, notes, notes+1, 2*notes+1, 1<<32, 1<<32+1, most)
		for fall := range notes {
			if fall < 30 || fall > notes-10 || fall%17 == 0 {
				falls = append(falls, fall)
			}
		}
		for _, fall := range falls {
			for _, picks := range [][]int{nil, l(1, -1, 5)} {
				d, own := c.disk(), c.disk()
				x, h := c.open(t, d, machines), c.openByHand(own, machines)
				wantStep(t, x, picks, -1, h.step(-1))
				want := h.step(fall)
				if down := fall >= 0 && fall < notes; down != (want == api.ErrPower) {
					t.Fatalf("%d machines, fall %d: by hand %d comes", machines, fall, want)
				}
				wantStep(t, x, picks, fall, want)
				wantAlike(t, x, d, h)
				if want == api.ErrPower {
					wantBroken(t, x, d)
				} else {
					wantStep(t, x, nil, -1, h.step(-1))
					wantAlike(t, x, d, h)
				}
				if t.Failed() {
					t.Fatalf("%d machines, fall %d, picks %v", machines, fall, picks)
				}
			}
		}
	}
}

// W6: one machine sends no notes, and so does not fall; two send four.
func TestW6FewMachines(t *testing.T) {
	c := named(t, "line").taught(thrown(3), 4, 2, 1)
	x := c.open(t, c.disk(), 1)
	for _, fall := range l(0, 1, 4, -1, most, least) {
		wantStep(t, x, nil, fall, api.OK)
	}
	for fall := -1; fall < 7; fall++ {
		d := c.disk()
		x := c.open(t, d, 2)
		if fall < 0 || fall >= 4 {
			wantStep(t, x, nil, fall, api.OK)
			continue
		}
		wantStep(t, x, nil, fall, api.ErrPower)
		wantPuts(t, d)
		wantBroken(t, x, d)
	}
}

// W6: which words are put, in which order, into which slot.
func TestW6Puts(t *testing.T) {
	c := small(t, 2, 1, 3)
	c.plan.Seed = ""
	d := c.disk()
	x := c.open(t, d, 3)
	// The numbers are those of TestW3ByHand.
	wantStep(t, x, nil, -1, api.OK)
	wantPuts(t, d, put{0, 0}, put{1, -3}, put{2, -4}, put{3, 4}, put{4, 6}, put{0, 2})
	wantStep(t, x, nil, -1, api.OK)
	wantPuts(t, d, put{5, 0}, put{6, 37}, put{7, 0}, put{8, -40}, put{9, -4}, put{5, 3})
	wantStep(t, x, nil, -1, api.OK)
	wantPuts(t, d, put{0, 0}, put{1, -135}, put{2, -132}, put{3, 172}, put{4, 132}, put{0, 4})
	// One that goes on from slot 0 takes slot 1 next.
	x = c.open(t, d, 1)
	wantStep(t, x, nil, -1, api.OK)
	wantPuts(t, d, put{5, 0}, put{6, 157}, put{7, 8}, put{8, -292}, put{9, -140}, put{5, 5})
	// And the other way round.
	x = c.open(t, d, 1)
	wantStep(t, x, nil, -1, api.OK)
	if d.puts[0] != (put{0, 0}) || d.puts[5] != (put{0, 6}) || len(d.puts) != 6 {
		t.Errorf("%v were put", d.puts)
	}
}

// W6: the first slot that is taken, whatever lies in the slots.
func TestW6FirstSlot(t *testing.T) {
	c := named(t, "line").taught(thrown(4), 4, 2, 1)
	for _, x := range []struct {
		first, second int64
		at            int
	}{
		{0, 0, 0}, {-1, -1, 0}, {allSteps + 2, 0, 0}, {0, allSteps + 2, 0}, {1, 0, 5}, {0, 1, 0}, {2, 2, 5}, {3, 2, 5}, {2, 3, 0}, {allSteps + 2, 3, 0}, {3, allSteps + 2, 5},
	} {
		d := holding(x.first, 1, 2, 3, 4, x.second, 5, 6, 7, 8)
		trainer := c.open(t, d, 2)
		for k := range 4 {
			wantStep(t, trainer, nil, -1, api.OK)
			at := x.at
			if k%2 == 1 {
				at = 5 - at
			}
			if len(d.puts) != 6 || d.puts[0] != (put{at, 0}) || d.puts[5].at != at {
				t.Errorf("heads %d and %d, step %d: %v were put", x.first, x.second, k, d.puts)
			}
			d.puts = nil
		}
	}
}

// W6: it is saved when Every divides how many steps were done, in all, not since it was opened.
func TestW6Every(t *testing.T) {
	for _, every := range l(1, 2, 3, 4, 7, 1000, most) {
		for _, head := range l(0, 1, 2, 3, 4, 5, 6, 7, 8, 994) {
			c := named(t, "line").taught(thrown(5), 4, 2, every)
			d := c.disk()
			d.words[5] = int64(head)
			h := c.openByHand(holding(d.words...), 3)
			x := c.open(t, d, 3)
			done := max(head-1, 0)
			for range 15 {
				d.puts, h.puts = nil, nil
				wantStep(t, x, nil, -1, h.step(-1))
				wantAlike(t, x, d, h)
				done++
				if saved := len(d.puts) > 0; saved != (done%every == 0) {
					t.Errorf("every %d: after %d steps %v were put", every, done, d.puts)
				}
			}
		}
	}
}

// W6: the power goes at each word that is put: that one and no other is missing, and the trainer is broken. Opened again, it goes on from what was saved ahead of that.
func TestW6Power(t *testing.T) {
	for _, lesson := range lessons() {
		for _, saves := range l(0, 1, 2, 3) {
			for _, every := range l(1, 2) {
				c := lesson.taught(thrown(6), 4, 2, every)
				words := 2*size(c.dims) + 2
				for left := range words + 1 {
					name := fmt.Sprintf("%s: after %d saves, every %d, %d words", c.name, saves, every, left)
					d, own := c.disk(), c.disk()
					x, h := c.open(t, d, 2), c.openByHand(own, 2)
					for range saves*every + every - 1 {
						wantStep(t, x, nil, -1, h.step(-1))
					}
					d.power(left)
					own.power(left)
					d.puts, own.puts = nil, nil
					want := h.step(-1)
					if (left < words) != (want == api.ErrPower) {
						t.Fatalf("%s: by hand %d comes", name, want)
					}
					wantStep(t, x, nil, -1, want)
					wantAlike(t, x, d, h)
					if want == api.ErrPower && len(d.puts) != left+1 {
						t.Errorf("%s: %v were put", name, d.puts)
					}
					if want == api.ErrPower {
						wantBroken(t, x, d)
						d.power(-1)
						wantBroken(t, x, d)
						again, _, _ := c.open(t, d, 3).Weights()
						_, steps, _ := c.open(t, d, 3).Weights()
						if steps != saves*every || !slices.Equal(again.Data, c.after(steps)) {
							t.Errorf("%s: opened again it has done %d steps", name, steps)
						}
					}
					if t.Failed() {
						t.Fatal(name)
					}
				}
			}
		}
	}
}

// after are the weights that one machine which never falls has learned in so many steps.
func (c class) after(steps int) []int64 {
	h := c.openByHand(c.disk(), 1)
	for range steps {
		h.step(-1)
	}
	return h.weights
}

// W6: the power is off at once, and it is not asked for where nothing is to be saved.
func TestW6PowerOff(t *testing.T) {
	c := named(t, "line").taught(thrown(7), 4, 2, 3)
	d := c.disk()
	x := c.open(t, d, 2)
	d.power(0)
	wantStep(t, x, nil, -1, api.OK)
	wantStep(t, x, nil, -1, api.OK)
	wantPuts(t, d)
	wantWeights(t, x, 2, l(2), c.after(2)...)
	wantStep(t, x, nil, -1, api.ErrPower)
	wantPuts(t, d, put{0, 0})
	wantBroken(t, x, d)
	wantDisk(t, d, make([]int64, 10)...)
	// A machine that falls in a step that would be saved: nothing is put.
	d.power(-1)
	x = c.open(t, d, 2)
	wantStep(t, x, nil, -1, api.OK)
	wantStep(t, x, nil, -1, api.OK)
	wantStep(t, x, nil, 3, api.ErrPower)
	wantPuts(t, d)
	wantBroken(t, x, d)
}

// W6: MaxSteps steps can be done, and no more; the last ones have rows as all others.
func TestW6MaxSteps(t *testing.T) {
	for _, x := range []struct{ rows, batch, every int }{{1, 1, 1}, {4, 2, 1}, {3, 1, 4}, {3, 1, 3}, {2, 1, 1 << 20}} {
		c := named(t, "line").taught(thrown(8), x.rows, x.batch, x.every)
		words := w(allSteps-2, 1, 2, 3, 4, allSteps-1, 5, 6, 7, 8)
		d := holding(words...)
		h := c.openByHand(holding(words...), 3)
		trainer := c.open(t, d, 3)
		wantWeights(t, trainer, allSteps-2, l(2), 5, 6)
		for range 2 {
			wantStep(t, trainer, nil, -1, h.step(-1))
			wantAlike(t, trainer, d, h)
		}
		for _, fall := range l(-1, 0, 1, most) {
			if h.step(fall) != api.ErrMuch {
				t.Fatal("by hand it goes on")
			}
			wantStep(t, trainer, nil, fall, api.ErrMuch)
		}
		// It is not broken.
		wantAlike(t, trainer, d, h)
		if done := max(d.words[0], d.words[5]) == allSteps+1; done != (x.every != 3) {
			t.Errorf("every %d: the disk has %v", x.every, d.words)
		}
	}
	// One that was opened at the end.
	c := named(t, "line").taught(thrown(8), 4, 2, 1)
	d := holding(0, 1, 2, 3, 4, allSteps+1, 5, 6, 7, 8)
	x := c.open(t, d, 2)
	for range 2 {
		wantStep(t, x, nil, 0, api.ErrMuch)
		wantStep(t, x, nil, -1, api.ErrMuch)
		wantWeights(t, x, allSteps, l(2), 5, 6)
	}
	wantPuts(t, d)
	// ErrState comes ahead of ErrMuch: the last step is done, but can't be saved.
	d = holding(0, 1, 2, 3, 4, allSteps, 5, 6, 7, 8)
	x = c.open(t, d, 2)
	d.power(3)
	wantStep(t, x, nil, -1, api.ErrPower)
	wantBroken(t, x, d)
}

// W7: the weights ahead of all steps, between them and behind them; asking changes nothing.
func TestW7Weights(t *testing.T) {
	for _, lesson := range lessons() {
		c := lesson.taught(thrown(9), 6, 2, 2)
		d, own := c.disk(), c.disk()
		x, h := c.open(t, d, 4), c.openByHand(own, 4)
		wantWeights(t, x, 0, c.dims, c.start.Data...)
		for k := range 7 {
			wantStep(t, x, l(k), -1, h.step(-1))
			wantWeights(t, x, k+1, c.dims, h.weights...)
		}
		// What was not saved yet is told too; opened again, it is lost.
		again := c.open(t, d, 2)
		wantWeights(t, again, 6, c.dims, c.after(6)...)
		wantWeights(t, x, 7, c.dims, c.after(7)...)
		wantStep(t, x, nil, 5, api.ErrPower)
		wantBroken(t, x, d)
		wantWeights(t, again, 6, c.dims, c.after(6)...)
	}
}
