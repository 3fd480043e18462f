package ring_test

import (
	"fmt"
	"slices"
	"testing"

	"adjoint/api"
	"adjoint/ring"
)

// teamOf are the members with these words.
func teamOf(t *testing.T, do int, words [][]int64) []*ring.Member {
	t.Helper()
	var out []*ring.Member
	for me := range words {
		out = append(out, member(t, do, len(words), me, words[me]...))
	}
	return out
}

// The example with three members.
func TestT1Example(t *testing.T) {
	team := teamOf(t, api.AllSum, [][]int64{w(1, 2, 3), w(10, 20, 30), w(100, 200, 300)})
	sent := make([]int, 3)
	for range 4 {
		var way []api.Note
		for me, m := range team {
			n, ok := m.Next()
			if !ok || len(n.Data) != 1 {
				t.Fatalf("member %d: %v and %t come", me, n, ok)
			}
			sent[me]++
			way = append(way, n)
		}
		for _, n := range way {
			wantTake(t, team[n.To], n)
		}
	}
	for me, m := range team {
		wantNoNext(t, m)
		wantResult(t, m, 111, 222, 333)
		if sent[me] != 4 {
			t.Errorf("member %d sent %d notes", me, sent[me])
		}
	}
}

// play lets a team go on till nothing is left to do: who sends, and which note comes next, the dice say; some notes come twice.
func play(t *testing.T, d dice, team []*ring.Member) (sent int) {
	t.Helper()
	var way, old []api.Note
	idle := func() bool {
		for _, m := range team {
			if n, ok := m.Next(); ok {
				way = append(way, n)
				sent++
				return false
			}
		}
		return len(way) == 0
	}
	for {
		switch d.IntN(4) {
		case 0:
			if n, ok := team[d.IntN(len(team))].Next(); ok {
				way = append(way, n)
				sent++
			}
		case 1:
			if len(old) > 0 {
				n := old[d.IntN(len(old))]
				wantNoTake(t, team[n.To], n)
			}
		default:
			if len(way) > 0 {
				k := d.IntN(len(way))
				n := way[k]
				way = slices.Delete(way, k, k+1)
				wantTake(t, team[n.To], n)
				old = append(old, n)
			} else if idle() {
				return sent
			}
		}
	}
}

// T1 to T6: whatever order notes come in, some of them twice, each member has in the end what T1 says.
func TestT1Teams(t *testing.T) {
	d := thrown(1)
	for range 300 {
		for _, do := range kinds() {
			many := d.of(1, 2, 3, 3, 4, 5, 7, crowd)
			words := d.team(do, many)
			team := teamOf(t, do, words)
			if sent := play(t, d, team); sent != many*notesByHand(do, many) {
				t.Fatalf("kind %d, %d members: %d notes were sent", do, many, sent)
			}
			for me, want := range endsByHand(do, words) {
				wantResult(t, team[me], want...)
				wantNoNext(t, team[me])
			}
			if t.Failed() {
				t.Fatalf("kind %d, words %s", do, show(words))
			}
		}
	}
}

// T1: great teams with as many words as there may be.
func TestT1Full(t *testing.T) {
	d := thrown(2)
	for _, do := range kinds() {
		words := make([][]int64, crowd)
		for me := range words {
			words[me] = d.words(full)
		}
		if do == api.AllSum || do == api.ScatterSum {
			words = words[:3]
		}
		team := teamOf(t, do, words)
		play(t, d, team)
		// Piece by piece by hand is slow for so many; one member of each is enough.
		for me, want := range endsByHand(do, words)[:1] {
			wantResult(t, team[me], want...)
		}
	}
}

// T6: a member whose notes were all taken by others, but that has not taken all, has no result.
func TestT6NotYet(t *testing.T) {
	d := thrown(3)
	for _, do := range kinds() {
		for _, many := range []int{2, 3, crowd} {
			words := d.team(do, many)
			team := teamOf(t, do, words)
			held := d.IntN(many) // this one does not get the last note that it needs
			last := notesByHand(do, many) - 1
			var kept api.Note
			for going := true; going; {
				going = false
				for me, m := range team {
					n, ok := m.Next()
					if !ok {
						continue
					}
					going = true
					if n.To == held && n.Step == last {
						kept = n
						continue
					}
					wantTake(t, team[n.To], n)
					if me == held {
						wantNoResult(t, m)
					}
				}
			}
			ends := endsByHand(do, words)
			for me, m := range team {
				if me == held {
					wantNoResult(t, m)
				} else {
					wantResult(t, m, ends[me]...)
				}
				wantNoNext(t, m)
			}
			wantTake(t, team[held], kept)
			wantResult(t, team[held], ends[held]...)
		}
	}
}

// T6: at the end of each kind, with pieces without words.
func TestT6FewWords(t *testing.T) {
	d := thrown(4)
	for _, do := range kinds() {
		for _, words := range []int{0, 1, 2, 5, 15} {
			if do == api.AllSwap {
				words *= crowd
			}
			team := make([][]int64, crowd)
			for me := range team {
				team[me] = d.words(words)
			}
			members := teamOf(t, do, team)
			play(t, d, members)
			for me, want := range endsByHand(do, team) {
				wantResult(t, members[me], want...)
			}
		}
	}
}

// T3 to T6: one member, whatever comes to it, does what the words say, call by call.
func TestT5Whatever(t *testing.T) {
	d := thrown(5)
	seen := map[string]int{}
	for range 4000 {
		do, many := d.of(kinds()...), d.of(1, 2, 3, 4, 5, crowd)
		me := d.IntN(many)
		own := d.team(do, many)[me]
		m, h := member(t, do, many, me, own...), memberByHand(do, many, me, own)
		for range d.IntN(6 * many) {
			switch d.IntN(4) {
			case 0:
				got, ok := m.Next()
				want, may := h.next()
				if ok != may || !alike(got, want) {
					t.Fatalf("%s: Next: %s, %t come, not %s, %t", show(*h), show(got), ok, show(want), may)
				}
				seen[fmt.Sprint("next ", ok)]++
			case 1:
				got, err := m.Result()
				want, no := h.result()
				if err != no || !slices.Equal(got, want) {
					t.Fatalf("%s: Result: %s, %d come, not %s, %d", show(*h), show(got), err, show(want), no)
				}
				seen[fmt.Sprint("result ", err)]++
			default:
				n := d.note(h)
				was := show(*h)
				if got, want := m.Take(n), h.take(n); got != want {
					t.Fatalf("%s: Take of %s: %d comes, not %d", was, show(n), got, want)
				} else {
					seen[fmt.Sprint("take ", got)]++
				}
			}
		}
	}
	for _, what := range []string{"next true", "next false", "result 0", "result 13", "take 0", "take 13"} {
		if seen[what] < 1000 {
			t.Errorf("just these came: %v", seen)
		}
	}
}

// note is one that a member may take, or one that is wrong somewhere.
func (d dice) note(h *byHand) api.Note {
	notes := notesByHand(h.do, h.many)
	step := d.IntN(notes + 1)
	if d.IntN(3) > 0 {
		step = min(h.used()+d.IntN(3), notes)
	}
	from, _ := whoByHand(h.do, h.many, h.me, step)
	size := len(piece(h.words, h.many, h.number(from, step)))
	if h.do == api.AllParts {
		size = d.IntN(4)
	}
	out := note(from, h.me, step, d.words(size)...)
	odd := []int{least, -1, 0, 1, 2, h.many - 1, h.many, notes - 1, notes, most}
	switch d.IntN(12) {
	case 0:
		out.From = d.of(odd...)
	case 1:
		out.To = d.of(odd...)
	case 2:
		out.Step = d.of(odd...)
	case 3:
		out.Data = d.words(d.IntN(5))
	}
	return out
}
