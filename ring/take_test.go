package ring_test

import (
	"slices"
	"testing"

	"adjoint/api"
)

// T5: notes in order, early, twice.
func TestT5Orders(t *testing.T) {
	first, second, third, fourth := note(0, 1, 0, 10), note(0, 1, 1, 20), note(0, 1, 2, 30), note(0, 1, 3, 40)
	for _, order := range [][]api.Note{
		{first, second, third, fourth}, {fourth, third, second, first}, {second, fourth, first, third}, {third, first, fourth, second},
	} {
		m := member(t, api.AllSum, 3, 1, 1, 2, 3)
		for k, n := range order {
			wantNoResult(t, m)
			wantTake(t, m, n)
			// Again, whether it was used by now or is kept.
			wantNoTake(t, m, order[:k+1]...)
			// Again with other words, which must not count.
			n.Data = w(99)
			wantNoTake(t, m, n)
		}
		wantResult(t, m, 30, 22, 40)
		wantNoTake(t, m, order...)
		wantResult(t, m, 30, 22, 40)
	}
}

// T5: a note that comes early changes nothing till those ahead of it were used.
func TestT5Early(t *testing.T) {
	m := member(t, api.AllParts, 4, 3, 1)
	wantTake(t, m, note(2, 3, 2, 30))
	wantNext(t, m, note(3, 0, 0, 1))
	wantNoNext(t, m)
	wantTake(t, m, note(2, 3, 0, 10))
	wantNext(t, m, note(3, 0, 1, 10))
	wantNoNext(t, m)
	wantNoResult(t, m)
	wantTake(t, m, note(2, 3, 1, 20))
	wantNext(t, m, note(3, 0, 2, 20))
	wantNoNext(t, m)
	wantResult(t, m, 30, 20, 10, 1)
}

// upset are notes that are not taken where a right one is: just one thing about each is wrong.
func upset(right api.Note, do, many int) []api.Note {
	var out []api.Note
	change := func(by func(n *api.Note)) {
		n := right
		n.Data = slices.Clone(right.Data)
		by(&n)
		out = append(out, n)
	}
	for _, other := range []int{least, -1, right.To - 1, right.To + 1, right.To + many, right.To - many, many, most, right.From} {
		if other != right.To {
			change(func(n *api.Note) { n.To = other })
		}
	}
	for _, other := range []int{least, -1, right.From - 1, right.From + 1, right.From + many, right.From - many, many, most, right.To} {
		if other != right.From {
			change(func(n *api.Note) { n.From = other })
		}
	}
	notes := notesByHand(do, many)
	for _, other := range []int{least, -notes, -1, notes, notes + 1, 2 * notes, 2 * (many - 1), most} {
		if other < 0 || other >= notes {
			change(func(n *api.Note) { n.Step = other })
		}
	}
	if do == api.AllParts {
		change(func(n *api.Note) { n.Data = make([]int64, full+1) })
		change(func(n *api.Note) { n.Data = make([]int64, 2*full) })
		return out
	}
	change(func(n *api.Note) { n.Data = append(n.Data, 7) })
	change(func(n *api.Note) { n.Data = append(n.Data, make([]int64, many)...) })
	change(func(n *api.Note) { n.Data = make([]int64, full+1) })
	if len(right.Data) > 0 {
		change(func(n *api.Note) { n.Data = n.Data[1:] })
		change(func(n *api.Note) { n.Data = nil })
	}
	return out
}

// T5: notes for another member, from the wrong one, with steps that there are not, with too few and too many words; none of them changes anything.
func TestT5Wrong(t *testing.T) {
	for _, do := range kinds() {
		for _, many := range []int{2, 3, crowd} {
			for _, words := range []int{0, 2 * many, 2*many + 1} {
				if do == api.AllSwap && words%many != 0 {
					continue
				}
				own := make([]int64, words)
				for me := range many {
					m := member(t, do, many, me, own...)
					came := tellOne(do, many, me, own)
					for step := range came {
						from, to := whoByHand(do, many, me, step)
						right := note(from, me, step, came[step]...)
						wantNoTake(t, m, upset(right, do, many)...)
						wantNext(t, m, note(me, to, step, said(do, many, me, step, own, came)...))
						wantNoTake(t, m, upset(right, do, many)...)
						if do != api.AllSwap {
							wantNoNext(t, m)
						}
						wantNoResult(t, m)
						wantTake(t, m, right)
						wantNoTake(t, m, right)
					}
					wantResult(t, m, ended(do, many, me, own, came)...)
				}
			}
		}
	}
}

// T5: of pieces that are not of one size each note must be as great as its own one, early too.
func TestT5Sizes(t *testing.T) {
	// The pieces 0, 1 and 2 have 0, 1 and 1 words; member 0 takes 1, 0, 2, 1.
	m := member(t, api.AllSum, 3, 0, 1, 2)
	wantNoTake(t, m, note(2, 0, 3), note(2, 0, 3, 1, 2), note(2, 0, 2), note(2, 0, 2, 1, 2), note(2, 0, 1, 1), note(2, 0, 0), note(2, 0, 0, 1, 2))
	wantTake(t, m, note(2, 0, 3, 40), note(2, 0, 2, 30), note(2, 0, 1), note(2, 0, 0, 10))
	wantResult(t, m, 40, 30)

	m = member(t, api.ScatterSum, 3, 0, 1, 2)
	wantNoTake(t, m, note(2, 0, 1, 1), note(2, 0, 0), note(2, 0, 0, 1, 2))
	wantTake(t, m, note(2, 0, 1), note(2, 0, 0, 10))
	wantResult(t, m)

	m = member(t, api.AllSwap, 3, 0, 1, 2, 3, 4, 5, 6)
	wantNoTake(t, m, note(2, 0, 0, 1), note(2, 0, 0, 1, 2, 3), note(2, 0, 0), note(1, 0, 1, 1, 2, 3, 4, 5, 6))
	wantTake(t, m, note(1, 0, 1, 10, 20), note(2, 0, 0, 30, 40))
	wantResult(t, m, 1, 2, 10, 20, 30, 40)
}

// T5: of AllParts others may have other word counts, up to as many as there may be.
func TestT5AllParts(t *testing.T) {
	great := make([]int64, full)
	great[0], great[full-1] = 5, 6
	for _, own := range [][]int64{nil, w(1), w(1, 2, 3), great} {
		m := member(t, api.AllParts, 4, 1, own...)
		wantNoTake(t, m, note(0, 1, 0, make([]int64, full+1)...), note(0, 1, 1, make([]int64, full+1)...))
		wantTake(t, m, note(0, 1, 0, great...), note(0, 1, 1), note(0, 1, 2, 7, 8))
		wantNext(t, m, note(1, 2, 0, own...))
		wantNext(t, m, note(1, 2, 1, great...))
		wantNext(t, m, note(1, 2, 2))
		wantResult(t, m, slices.Concat(great, own, w(7, 8))...)
	}
	// As many as there may be, of all.
	m := member(t, api.AllParts, crowd, 0, great...)
	for step := range crowd - 1 {
		wantTake(t, m, note(crowd-1, 0, step, great...))
	}
	wantResult(t, m, slices.Repeat(great, crowd)...)
}

// T5: sums wrap round.
func TestT5Wraps(t *testing.T) {
	const top, bottom = 1<<63 - 1, -1 << 63
	m := member(t, api.ScatterSum, 2, 0, top, 0)
	wantTake(t, m, note(1, 0, 0, 1))
	wantResult(t, m, bottom)
	m = member(t, api.ScatterSum, 2, 0, bottom, 0)
	wantTake(t, m, note(1, 0, 0, bottom))
	wantResult(t, m, 0)
	m = member(t, api.AllSum, 2, 1, 0, bottom)
	wantTake(t, m, note(0, 1, 0, -1), note(0, 1, 1, top))
	wantResult(t, m, top, top)
}
