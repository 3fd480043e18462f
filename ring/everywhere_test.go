package ring_test

import (
	"fmt"
	"slices"
	"sync"
	"testing"

	"adjoint/api"
	"adjoint/ring"
)

// roomy is a list with room behind it, in which something stands.
func roomy(list []int64) []int64 { return append(slices.Clone(list), -7, -7, -7)[:len(list)] }

// whole shows a list with the room behind it.
func whole(list []int64) string { return fmt.Sprint(list[:cap(list)]) }

// spoil writes over a list, its spare room too.
func spoil(list []int64) {
	list = list[:cap(list)]
	for k := range list {
		list[k] = -99
	}
}

// E2: words and notes are only read, the room behind them too, and may be changed as soon as the call has answered; and whoever changes what is answered changes nothing that is told later.
func TestE2(t *testing.T) {
	d := thrown(6)
	for range 3000 {
		do, many := d.of(kinds()...), d.of(1, 2, 3, 4, 5, crowd)
		me := d.IntN(many)
		own := d.team(do, many)[me]
		given := roomy(own)
		was := whole(given)
		m, err := ring.New(do, many, me, given)
		if err != api.OK || whole(given) != was {
			t.Fatalf("%s was handed in, and %s came back with %d", was, whole(given), err)
		}
		spoil(given)
		h := memberByHand(do, many, me, own)
		for range 6 * many {
			switch d.IntN(4) {
			case 0:
				got, _ := m.Next()
				if want, _ := h.next(); !alike(got, want) {
					t.Fatalf("kind %d, member %d of %d: Next: %s comes, not %s", do, me, many, show(got), show(want))
				}
				spoil(got.Data)
			case 1:
				got, _ := m.Result()
				if want, _ := h.result(); !slices.Equal(got, want) {
					t.Fatalf("kind %d, member %d of %d: Result: %s comes, not %s", do, me, many, show(got), show(want))
				}
				spoil(got)
			default:
				n := d.note(h)
				n.Data = roomy(n.Data)
				was := whole(n.Data)
				h.take(n)
				m.Take(n)
				if whole(n.Data) != was {
					t.Fatalf("%s was handed in, and %s came back", was, whole(n.Data))
				}
				spoil(n.Data)
			}
		}
	}
}

// E2: the same words may be handed to all members of a team, and the same note twice.
func TestE2Shared(t *testing.T) {
	for _, do := range kinds() {
		words := w(1, 2, 3, 4)
		var team []*ring.Member
		for me := range 2 {
			m, _ := ring.New(do, 2, me, words)
			team = append(team, m)
		}
		play(t, thrown(7), team)
		if !slices.Equal(words, w(1, 2, 3, 4)) {
			t.Errorf("kind %d: the words are %v now", do, words)
		}
		for me, want := range endsByHand(do, [][]int64{words, words}) {
			wantResult(t, team[me], want...)
		}
	}
}

// E3: nil and a list without entries are the same.
func TestE3NilAndEmpty(t *testing.T) {
	for _, do := range kinds() {
		for _, none := range [][]int64{nil, {}, make([]int64, 0, 3)} {
			for _, other := range [][]int64{nil, {}, make([]int64, 0, 3)} {
				m, err := ring.New(do, 3, 1, none)
				if err != api.OK {
					t.Fatalf("kind %d: %d comes", do, err)
				}
				for step := range notesByHand(do, 3) {
					from, to := whoByHand(do, 3, 1, step)
					wantNext(t, m, note(1, to, step))
					wantTake(t, m, api.Note{From: from, To: 1, Step: step, Data: other})
					wantNoTake(t, m, api.Note{From: from, To: 1, Step: step, Data: none})
				}
				wantResult(t, m)
				// Early ones without words are kept too.
				m, _ = ring.New(do, 3, 1, none)
				for step := range notesByHand(do, 3) {
					step = notesByHand(do, 3) - 1 - step
					from, _ := whoByHand(do, 3, 1, step)
					wantTake(t, m, api.Note{From: from, To: 1, Step: step, Data: other})
					wantNoTake(t, m, api.Note{From: from, To: 1, Step: step, Data: none})
				}
				wantResult(t, m)
			}
		}
	}
}

// E1: whatever a note says, nothing panics, ahead of the end and behind it.
func TestE1Whatever(t *testing.T) {
	odd := []int{least, least + 1, -crowd, -1, 0, 1, 2, 3, crowd, 2 * crowd, 1 << 32, most - 1, most}
	for _, do := range kinds() {
		for _, many := range []int{1, 2, 3} {
			for me := range many {
				m := member(t, do, many, me, make([]int64, 6)...)
				h := memberByHand(do, many, me, make([]int64, 6))
				for _, from := range odd {
					for _, to := range odd {
						for _, step := range odd {
							for _, words := range []int{0, 1, 2, 3, 6} {
								n := note(from, to, step, make([]int64, words)...)
								if got, want := m.Take(n), h.take(n); got != want {
									t.Fatalf("kind %d, member %d of %d: Take of %v: %d comes, not %d", do, me, many, n, got, want)
								}
							}
						}
					}
				}
			}
		}
	}
}

// E1: several teams do not know of one another.
func TestE1AtTheSameTime(t *testing.T) {
	run := func() string {
		d := thrown(8)
		out := ""
		for range 30 {
			for _, do := range kinds() {
				words := d.team(do, d.of(1, 2, 3, 5))
				team := teamOf(t, do, words)
				out += fmt.Sprint(play(t, d, team))
				for _, m := range team {
					got, err := m.Result()
					out += fmt.Sprint(got, err)
				}
			}
		}
		return out
	}
	want := run()
	got := make([]string, 8)
	var group sync.WaitGroup
	for k := range got {
		group.Go(func() { got[k] = run() })
	}
	group.Wait()
	for _, s := range got {
		if s != want {
			t.Error("something else comes at the same time")
		}
	}
}

// E1: members of one team work at the same time, each in a goroutine of its own, with notes that go by channels.
func TestE1TeamAtTheSameTime(t *testing.T) {
	d := thrown(9)
	for _, do := range kinds() {
		for _, many := range []int{1, 2, 3, crowd} {
			words := d.team(do, many)
			team := teamOf(t, do, words)
			way := make([]chan api.Note, many)
			for k := range way {
				way[k] = make(chan api.Note, notesByHand(do, many))
			}
			var group sync.WaitGroup
			for me, m := range team {
				group.Go(func() {
					for range notesByHand(do, many) {
						for n, ok := m.Next(); ok; n, ok = m.Next() {
							way[n.To] <- n
						}
						if err := m.Take(<-way[me]); err != api.OK {
							t.Errorf("Take: %d comes", err)
						}
					}
				})
			}
			group.Wait()
			for me, want := range endsByHand(do, words) {
				wantResult(t, team[me], want...)
			}
		}
	}
}
