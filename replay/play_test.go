package replay_test

import (
	"fmt"
	"math/rand/v2"
	"strings"
	"testing"

	"adjoint/api"
	"adjoint/replay"
)

func TestR1Ordinary(t *testing.T) {
	wantPlay(t, 0, 0, "", 0)
	wantPlay(t, 1, 0, "b", 0)
	wantPlay(t, 2, 1, "k0 a b l0 b", 1)
	wantPlay(t, 3, 1, "k0 a a b l0 a b l0 b", 3)
	wantPlay(t, 3, 2, "k0 a k1 a b l1 b l0 b", 2)
	wantPlay(t, 3, 2, "k1 a k0 a b l0 b l1 b", 2)
	wantPlay(t, 3, 16, "k15 a k7 a b l7 b l15 b", 2)
	// Nobody must be sparing: what is done for nothing costs too, if it is a step ahead.
	wantPlay(t, 1, 1, "k0 a l0 b", 1)
	wantPlay(t, 2, 2, "k1 a a l1 a k0 k0 l0 l1 l0 b l1 l1 b", 3)
	// The number of a move that has no slot means nothing.
	wantPlay(t, 2, 1, "k0 a-1 b99 l0 b-7", 1)
	// The greatest chain; the slot is kept once, and loaded for each step.
	var s strings.Builder
	s.WriteString("k0")
	for left := 256; left > 0; left-- {
		s.WriteString(" l0" + strings.Repeat(" a", left-1) + " b")
	}
	wantPlay(t, 256, 1, s.String(), 256*255/2)
}

func TestR1Ahead(t *testing.T) {
	for n := range 5 {
		at := ""
		for range n {
			wantNext(t, n, 1, at, "a", api.OK)
			at += " a"
		}
		// At the last state there is no step more, however often it is tried, and wherever it came from.
		wantNext(t, n, 1, at, "a", api.ErrState)
		wantNext(t, n, 1, at+" k0 l0", "a", api.ErrState)
		wantNext(t, n, 1, "k0"+at+" l0"+at, "a", api.ErrState)
	}
	all := strings.Repeat(" a", 255)
	wantNext(t, 256, 0, all, "a", api.OK)
	wantNext(t, 256, 0, all+" a", "a", api.ErrState)
}

func TestR1Slots(t *testing.T) {
	for slots := range 17 {
		for _, n := range []int{0, 1, 2, 256} {
			for slot := -2; slot < 19; slot++ {
				keep, load := fmt.Sprint("k", slot), fmt.Sprint("l", slot)
				if slot < 0 || slot >= slots {
					wantNext(t, n, slots, "", keep, api.ErrRange)
					wantNext(t, n, slots, "", load, api.ErrRange)
					continue
				}
				wantNext(t, n, slots, "", keep, api.OK)
				wantNext(t, n, slots, "", load, api.ErrNone)
				wantNext(t, n, slots, keep, load, api.OK)
				wantNext(t, n, slots, keep+" "+load, load, api.OK)
				// Another one is kept: this one stays empty.
				if slots > 1 {
					wantNext(t, n, slots, fmt.Sprint("k", (slot+1)%slots), load, api.ErrNone)
				}
			}
			for _, slot := range []string{"9223372036854775807", "-9223372036854775808"} {
				wantNext(t, n, slots, "", "k"+slot, api.ErrRange)
				wantNext(t, n, slots, "", "l"+slot, api.ErrRange)
			}
		}
	}
	// What is kept last stays, and goes on staying once it was loaded.
	wantNext(t, 3, 1, "k0 a k0 a l0", "a", api.OK)
	wantNext(t, 3, 1, "k0 a k0 a l0 a", "a", api.OK)
	wantNext(t, 3, 1, "k0 a k0 a l0 a a", "a", api.ErrState)
	wantNext(t, 3, 1, "a a k0 l0 a l0", "a", api.OK)
	wantNext(t, 3, 1, "a a k0 l0 a l0 a", "a", api.ErrState)
}

func TestR1Back(t *testing.T) {
	for n := range 6 {
		// Ahead of its time, at it, and at the state behind all.
		for at := range n + 1 {
			want := api.ErrState
			if at == n-1 {
				want = api.OK
			}
			wantNext(t, n, 1, strings.Repeat(" a", at), "b", want)
			// One step less is left: the time of the next back is one state ahead of that.
			if n > 1 {
				want = api.ErrState
				if at == n-2 {
					want = api.OK
				}
				wantNext(t, n, 1, "k0"+strings.Repeat(" a", n-1)+" b l0"+strings.Repeat(" a", at), "b", want)
			}
		}
	}
	// The same step does not go back twice, and after all none does.
	wantNext(t, 2, 1, "a b", "b", api.ErrState)
	wantNext(t, 1, 1, "b", "b", api.ErrState)
	wantNext(t, 0, 1, "", "b", api.ErrState)
	wantNext(t, 2, 1, "k0 a b l0 b", "b", api.ErrState)
	wantNext(t, 2, 1, "k0 a b l0 b a", "b", api.ErrState)
	wantNext(t, 2, 1, "k0 a b l0 b a a", "b", api.ErrState)
}

func TestR1Kinds(t *testing.T) {
	for _, do := range []string{"x0", "x5", "x9", "x-1", "x9223372036854775807", "x-9223372036854775808"} {
		wantNoPlay(t, 0, 0, do, api.ErrKind)
		wantNoPlay(t, 1, 0, "b "+do, api.ErrKind)
		wantNoPlay(t, 2, 1, "k0 a "+do+" b l0 b", api.ErrKind)
	}
}

// Moves behind the end are moves as all others.
func TestR1BehindTheEnd(t *testing.T) {
	const all = "k0 a b l0 b"
	wantPlay(t, 2, 1, all, 1)
	wantPlay(t, 2, 1, all+" a", 2)
	wantPlay(t, 2, 1, all+" a a", 3)
	wantPlay(t, 2, 1, all+" a k0 l0 a", 3)
	wantNoPlay(t, 2, 1, all+" a a a", api.ErrState)
	wantNoPlay(t, 2, 1, all+" b", api.ErrState)
	wantNoPlay(t, 2, 1, all+" k1", api.ErrRange)
	wantNoPlay(t, 2, 1, all+" l-1", api.ErrRange)
	wantNoPlay(t, 2, 2, all+" l1", api.ErrNone)
	wantNoPlay(t, 2, 1, all+" x5", api.ErrKind)
	wantNoPlay(t, 0, 0, "a", api.ErrState)
}

func TestR1StepsLeft(t *testing.T) {
	for n := 1; n < 6; n++ {
		wantNoPlay(t, n, 1, "", api.ErrState)
		wantNoPlay(t, n, 1, strings.Repeat(" a", n), api.ErrState)
	}
	wantNoPlay(t, 2, 1, "k0 a b l0", api.ErrState)
	wantNoPlay(t, 2, 1, "a b", api.ErrState)
	wantNoPlay(t, 256, 16, strings.Repeat(" a", 255)+" b", api.ErrState)
}

// E4: of n and slots first; then of the first move of which something is wrong, whatever comes behind it; of a Load that there is no such slot first; that steps are left last.
func TestR1WhichComesFirst(t *testing.T) {
	for _, c := range beyond() {
		for _, s := range []string{"", "b", "a", "x9", "k0", "l0", "k99", "k0 a b l0 b"} {
			wantNoPlay(t, c[0], c[1], s, api.ErrRange)
		}
	}
	faults := map[string]api.Errno{"x7": api.ErrKind, "k2": api.ErrRange, "l2": api.ErrRange, "l1": api.ErrNone, "b": api.ErrState, "a a a a": api.ErrState}
	for first, want := range faults {
		wantNoPlay(t, 3, 2, first, want)
		for second := range faults {
			wantNoPlay(t, 3, 2, "k0 "+first+" "+second, want)
		}
		wantNoPlay(t, 3, 2, first+" k0 a a b l0 a b l0 b", want)
	}
	for slots := range 17 {
		wantNoPlay(t, 0, slots, "x9", api.ErrKind)
		wantNoPlay(t, 256, slots, "x9", api.ErrKind)
	}
}

// all moves that may matter with so many slots.
func all(slots int) []api.Move {
	out := moves("a b x0 x5")
	for slot := -1; slot <= slots; slot++ {
		out = append(out, moves(fmt.Sprint("k", slot, " l", slot))...)
	}
	return out
}

func isByHand(t *testing.T, n, slots int, moves []api.Move) api.Errno {
	t.Helper()
	cost, err := playByHand(n, slots, moves)
	if got, gotErr := replay.Play(n, slots, moves); got != cost || gotErr != err {
		t.Fatalf("%d steps, %d slots, %v: %d, %d comes, not %d, %d", n, slots, moves, got, gotErr, cost, err)
	}
	return err
}

// All plays of up to 5 moves, of up to 3 steps with up to 2 slots.
func TestR1AllShortPlays(t *testing.T) {
	for n := range 4 {
		for slots := range 3 {
			var further func(so []api.Move)
			further = func(so []api.Move) {
				isByHand(t, n, slots, so)
				if len(so) == 5 {
					return
				}
				for _, m := range all(slots) {
					further(append(so, m))
				}
			}
			further(make([]api.Move, 0, 5))
		}
	}
}

// Plays as the dice fall: such moves as can be made, for the most part.
func TestR1Dice(t *testing.T) {
	d := dice{rand.New(rand.NewPCG(1, 24))}
	came := map[api.Errno]int{}
	for range 30000 {
		n, slots := d.IntN(7), d.IntN(4)
		if d.IntN(50) == 0 {
			n, slots = d.of(-1, 257, 3, 256), d.of(-1, 17, 16, 0)
		}
		so, each := []api.Move{}, all(slots)
		for range d.IntN(40) {
			m := each[d.IntN(len(each))]
			if _, err := playByHand(n, slots, append(so, m, api.Move{})); err == api.ErrKind && m.Do > 0 && m.Do < 5 || d.IntN(60) == 0 {
				so = append(so, m)
			}
		}
		came[isByHand(t, n, slots, so)]++
	}
	for _, err := range []api.Errno{api.OK, api.ErrRange, api.ErrKind, api.ErrNone, api.ErrState} {
		if came[err] < 200 {
			t.Errorf("%d came %d times", err, came[err])
		}
	}
}
