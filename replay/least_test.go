package replay_test

import (
	"testing"

	"adjoint/api"
	"adjoint/replay"
)

// wantLeast: so much, and nothing wrong.
func wantLeast(t *testing.T, n, slots, want int) {
	t.Helper()
	if got, err := replay.Least(n, slots); got != want || err != api.OK {
		t.Errorf("%d steps, %d slots: %d, %d comes, not %d", n, slots, got, err, want)
	}
}

// wantNoWay: Least and Plan tell this error, and nothing else; Run calls nothing, and tells it too.
func wantNoWay(t *testing.T, n, slots int, want api.Errno) {
	t.Helper()
	if got, err := replay.Least(n, slots); got != 0 || err != want {
		t.Errorf("Least of %d steps, %d slots: %d, %d comes, not %d", n, slots, got, err, want)
	}
	if got, err := replay.Plan(n, slots); len(got) != 0 || err != want {
		t.Errorf("Plan of %d steps, %d slots: %v, %d comes, not %d", n, slots, got, err, want)
	}
	err := replay.Run(n, slots, 0, func(int) int { t.Errorf("%d steps, %d slots: ahead is called", n, slots); return 0 }, func(int) { t.Errorf("%d steps, %d slots: back is called", n, slots) })
	if err != want {
		t.Errorf("Run of %d steps, %d slots: %d comes, not %d", n, slots, err, want)
	}
}

func TestR2ByHand(t *testing.T) {
	for slots, costs := range [][]int{
		{0, 0},
		{0, 0, 1, 3, 6, 10, 15, 21},
		{0, 0, 1, 2, 4, 6, 8, 11, 14, 17, 20},
		{0, 0, 1, 2, 3, 5, 7, 9, 11, 13, 15, 18},
		{0, 0, 1, 2, 3, 4, 6, 8},
	} {
		for n, want := range costs {
			wantLeast(t, n, slots, want)
		}
	}
	wantLeast(t, 256, 1, 32640)
	wantLeast(t, 256, 16, 597)
	wantLeast(t, 100, 5, 316)
	// As many slots as there are states to come back to: each step but the last one is made once.
	for n := 1; n <= 17; n++ {
		wantLeast(t, n, 16, n-1)
	}
	wantLeast(t, 18, 16, 18)
}

func TestR2NoSlot(t *testing.T) {
	wantLeast(t, 0, 0, 0)
	wantLeast(t, 1, 0, 0)
	for n := 2; n <= 256; n++ {
		wantNoWay(t, n, 0, api.ErrNone)
	}
}

// ErrRange comes ahead of ErrNone: beyond holds chains without a slot, and with less than none.
func TestR2Beyond(t *testing.T) {
	for _, c := range beyond() {
		wantNoWay(t, c[0], c[1], api.ErrRange)
	}
}

func TestR2ByItsWords(t *testing.T) {
	words := costs{}
	for n := range 257 {
		for slots := 1; slots <= 16; slots++ {
			if closed(n, slots) != words.of(n, slots) {
				t.Fatalf("%d steps, %d slots: the words say %d, without smaller ones it is %d", n, slots, words.of(n, slots), closed(n, slots))
			}
			wantLeast(t, n, slots, words.of(n, slots))
		}
	}
}

// Nobody comes to an end with less, whatever the moves are.
func TestR2NobodyNeedsFewer(t *testing.T) {
	for slots, most := range []int{5, 12, 9, 7} {
		for n := range most + 1 {
			cost, ends := cheapest(n, slots)
			if !ends {
				wantNoWay(t, n, slots, api.ErrNone)
				continue
			}
			wantLeast(t, n, slots, cost)
		}
	}
}

func TestR3AllPlans(t *testing.T) {
	for n := range 257 {
		for slots := range 17 {
			if n > 1 && slots == 0 {
				continue
			}
			least, _ := replay.Least(n, slots)
			plan, err := replay.Plan(n, slots)
			if err != api.OK {
				t.Fatalf("%d steps, %d slots: %d comes", n, slots, err)
			}
			got, err := replay.Play(n, slots, plan)
			hand, handErr := playByHand(n, slots, plan)
			if err != api.OK || handErr != api.OK || got != least || hand != least {
				t.Fatalf("%d steps, %d slots: %v costs %d, %d (by hand %d, %d), not %d", n, slots, plan, got, err, hand, handErr, least)
			}
		}
	}
}

// A plan of nothing is no moves or such as go nowhere; that of one step needs no slot.
func TestR3Small(t *testing.T) {
	for slots := range 17 {
		for n := range 2 {
			plan, err := replay.Plan(n, slots)
			for _, m := range plan {
				if m.Do == api.MoveAhead {
					t.Errorf("%d steps, %d slots: %v goes ahead", n, slots, plan)
				}
			}
			if err != api.OK {
				t.Errorf("%d steps, %d slots: %d comes", n, slots, err)
			}
		}
	}
}
