package train_test

import (
	"fmt"
	"slices"
	"testing"

	"adjoint/api"
	"adjoint/train"
)

// W3 to W7: whatever is done with trainers on one disk, each call tells what the words say, and puts what they say.
func TestW6Whatever(t *testing.T) {
	d := thrown(20)
	seen := map[string]int{}
	for range 1500 {
		c := d.class()
		behind := d.words(d.of(0, 0, 1, 2, 9))
		mine, own := c.with(behind...), c.with(behind...)
		var x *train.Trainer
		var h *byHand
		for range 40 {
			switch do := d.IntN(12); {
			case do == 0 || x == nil:
				machines := d.of(1, 2, 3, 4, crowd)
				x, h = c.open(t, mine, machines), c.openByHand(own, machines)
			case do == 1:
				left := d.of(-1, -1, 0, 1, 2, 5, 9, 14, 30)
				mine.power(left)
				own.power(left)
			case do == 2 && d.IntN(3) == 0:
				at := d.of(0, 2*size(c.dims)+1)
				word := int64(d.of(least, -1, 0, 1, 2, 4, 9, allSteps-1, allSteps, allSteps+1, allSteps+2, most))
				mine.words[at], own.words[at] = word, word
			default:
				fall := d.of(-1, -1, -1, -1, -1, 0, 1, 3, 4, 11, 12, 23, 24, 479, 480, most, least)
				was := h.steps
				want := h.step(fall)
				seen[fmt.Sprint(want)]++
				if h.steps == was && want == api.OK {
					t.Fatal("by hand nothing was done")
				}
				wantStep(t, x, d.picks(), fall, want)
			}
			wantAlike(t, x, mine, h)
			c.wantBehind(t, mine, behind...)
			if t.Failed() {
				t.Fatalf("%s: %s", c.name, short(c.plan))
			}
		}
	}
	for _, err := range []api.Errno{api.OK, api.ErrMuch, api.ErrState, api.ErrPower} {
		if seen[fmt.Sprint(err)] < 500 {
			t.Errorf("just these came: %v", seen)
		}
	}
}

// W6: however often machines fall and the power goes, and on however many machines it goes on, what is learned in the end is what one machine that never falls learns.
func TestW6WhateverFalls(t *testing.T) {
	d := thrown(21)
	for range 300 {
		c := d.class()
		goal := d.of(1, 5, 12, 24)
		// So that it is saved in the end.
		goal = (goal + c.plan.Every - 1) / c.plan.Every * c.plan.Every
		disk := c.disk()
		saved, falls := 0, 0
		for saved < goal {
			machines := 1 + d.IntN(crowd)
			disk.power(d.of(-1, 3, 8, 20, 50))
			x := c.open(t, disk, machines)
			a, steps, _ := x.Weights()
			if steps != saved || !slices.Equal(a.Data, c.after(saved)) {
				t.Fatalf("%s: it goes on from step %d with %v, not from %d", c.name, steps, a.Data, saved)
			}
			for steps < goal {
				fall := -1
				if d.IntN(4) == 0 {
					fall = d.IntN(2*machines*(machines-1) + 1)
				}
				if x.Step(d.picks(), fall) != api.OK {
					falls++
					break
				}
				steps++
				if steps%c.plan.Every == 0 {
					saved = steps
				}
			}
		}
		got, steps, err := c.open(t, disk, 1).Weights()
		if err != api.OK || steps != goal || !slices.Equal(got.Data, c.after(goal)) {
			t.Errorf("%s: after %d falls %v was learned in %d steps, not %v in %d", c.name, falls, got.Data, steps, c.after(goal), goal)
		}
		// One machine that never falls, told by the program itself.
		one := c.open(t, c.disk(), 1)
		for range goal {
			wantStep(t, one, nil, -1, api.OK)
		}
		wantWeights(t, one, goal, c.dims, got.Data...)
	}
}

// W6: a trainer that is opened while another one goes on: each goes its own way.
func TestW6TwoOnOneDisk(t *testing.T) {
	c := named(t, "line").taught(thrown(22), 4, 2, 1)
	d, own := c.disk(), c.disk()
	a, h := c.open(t, d, 2), c.openByHand(own, 2)
	wantStep(t, a, nil, -1, h.step(-1))
	b, k := c.open(t, d, 3), c.openByHand(own, 3)
	for range 3 {
		wantStep(t, a, nil, -1, h.step(-1))
		wantAlike(t, a, d, h)
		wantStep(t, b, nil, -1, k.step(-1))
		wantAlike(t, b, d, k)
	}
}
