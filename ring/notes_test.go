package ring_test

import (
	"slices"
	"testing"

	"adjoint/api"
	"adjoint/ring"
)

// T1: the pieces of as many words, in teams of as many, by those that AllSwap and ScatterSum send.
func TestT1Pieces(t *testing.T) {
	for _, x := range []struct {
		words int
		sizes []int
	}{
		{0, []int{0}}, {1, []int{1}}, {7, []int{7}}, {full, []int{full}},
		{0, []int{0, 0}}, {1, []int{0, 1}}, {2, []int{1, 1}}, {7, []int{3, 4}},
		{0, []int{0, 0, 0}}, {1, []int{0, 0, 1}}, {2, []int{0, 1, 1}}, {3, []int{1, 1, 1}}, {7, []int{2, 2, 3}}, {8, []int{2, 3, 3}}, {9, []int{3, 3, 3}},
		{7, []int{1, 2, 2, 2}}, {5, []int{1, 1, 1, 2}}, {6, []int{1, 2, 1, 2}},
		{3, []int{0, 0, 1, 0, 1, 0, 1}}, {full, []int{21845, 21845, 21846}}, {full - 1, []int{32767, 32768}},
		{5, []int{0, 0, 0, 1, 0, 0, 1, 0, 0, 1, 0, 0, 1, 0, 0, 1}},
		{17, []int{1, 1, 1, 1, 1, 1, 1, 1, 1, 1, 1, 1, 1, 1, 1, 2}},
	} {
		many := len(x.sizes)
		words := make([]int64, x.words)
		for k := range words {
			words[k] = int64(k) + 1
		}
		from := 0
		for p, size := range x.sizes {
			want := words[from : from+size]
			from += size
			if many > 1 {
				// The first note of a member is the piece ahead of its own one.
				me := mod(p+1, many)
				wantNext(t, member(t, api.ScatterSum, many, me, words...), note(me, mod(me+1, many), 0, want...))
				wantNext(t, member(t, api.AllSum, many, me, words...), note(me, mod(me+1, many), 0, want...))
			}
			if !slices.Equal(want, piece(words, many, p)) {
				t.Fatalf("piece %d of %d of %d words: the tests have another one", p, many, x.words)
			}
		}
	}
}

// T3: the notes of AllSum, in a team of three.
func TestT3AllSum(t *testing.T) {
	m := member(t, api.AllSum, 3, 0, 1, 2, 3, 4, 5, 6, 7)
	wantNext(t, m, note(0, 1, 0, 5, 6, 7))
	wantNoNext(t, m)
	wantTake(t, m, note(2, 0, 0, 10, 20))
	wantNext(t, m, note(0, 1, 1, 13, 24))
	wantNoNext(t, m)
	wantTake(t, m, note(2, 0, 1, 30, 40))
	wantNext(t, m, note(0, 1, 2, 31, 42))
	wantNoNext(t, m)
	wantTake(t, m, note(2, 0, 2, 50, 60, 70))
	wantNext(t, m, note(0, 1, 3, 50, 60, 70))
	wantNoNext(t, m)
	wantNoResult(t, m)
	wantTake(t, m, note(2, 0, 3, 80, 90))
	wantNoNext(t, m)
	wantResult(t, m, 31, 42, 80, 90, 50, 60, 70)
}

// T3: the notes of ScatterSum, in a team of three.
func TestT3ScatterSum(t *testing.T) {
	m := member(t, api.ScatterSum, 3, 2, 1, 2, 3, 4, 5, 6, 7)
	wantNext(t, m, note(2, 0, 0, 3, 4))
	wantNoNext(t, m)
	wantTake(t, m, note(1, 2, 0, 10, 20))
	wantNext(t, m, note(2, 0, 1, 11, 22))
	wantNoNext(t, m)
	wantNoResult(t, m)
	wantTake(t, m, note(1, 2, 1, 30, 40, 50))
	wantNoNext(t, m)
	wantResult(t, m, 35, 46, 57)
}

// T3: the notes of AllParts, in a team of three.
func TestT3AllParts(t *testing.T) {
	m := member(t, api.AllParts, 3, 1, 1, 2)
	wantNext(t, m, note(1, 2, 0, 1, 2))
	wantNoNext(t, m)
	wantTake(t, m, note(0, 1, 0, 7, 8, 9))
	wantNext(t, m, note(1, 2, 1, 7, 8, 9))
	wantNoNext(t, m)
	wantNoResult(t, m)
	wantTake(t, m, note(0, 1, 1, 5))
	wantNoNext(t, m)
	wantResult(t, m, 7, 8, 9, 1, 2, 5)
}

// T3: the notes of AllSwap, in a team of three; they wait for none.
func TestT3AllSwap(t *testing.T) {
	m := member(t, api.AllSwap, 3, 1, 1, 2, 3, 4, 5, 6)
	wantNext(t, m, note(1, 2, 0, 5, 6))
	wantNext(t, m, note(1, 0, 1, 1, 2))
	wantNoNext(t, m)
	wantNoResult(t, m)
	wantTake(t, m, note(0, 1, 0, 7, 8))
	wantNoNext(t, m)
	wantNoResult(t, m)
	wantTake(t, m, note(2, 1, 1, 9, 10))
	wantNoNext(t, m)
	wantResult(t, m, 7, 8, 3, 4, 9, 10)
}

// T3: a team of one sends nothing, takes nothing, and has all.
func TestT3One(t *testing.T) {
	for _, do := range kinds() {
		for _, words := range [][]int64{nil, w(5), w(5, 6, 7), make([]int64, full)} {
			m := member(t, do, 1, 0, words...)
			wantResult(t, m, words...)
			wantNoNext(t, m)
			for _, step := range []int{least, -1, 0, 1, most} {
				wantNoTake(t, m, note(0, 0, step, words...), note(0, 0, step))
			}
			wantResult(t, m, words...)
		}
	}
}

// T3: teams of two.
func TestT3Two(t *testing.T) {
	m := member(t, api.AllSum, 2, 1, 1, 2, 3)
	wantNext(t, m, note(1, 0, 0, 1))
	wantTake(t, m, note(0, 1, 0, 10, 20))
	wantNext(t, m, note(1, 0, 1, 12, 23))
	wantTake(t, m, note(0, 1, 1, 30))
	wantNoNext(t, m)
	wantResult(t, m, 30, 12, 23)

	m = member(t, api.ScatterSum, 2, 0, 1, 2, 3)
	wantNext(t, m, note(0, 1, 0, 2, 3))
	wantTake(t, m, note(1, 0, 0, 10))
	wantNoNext(t, m)
	wantResult(t, m, 11)

	m = member(t, api.AllParts, 2, 1, 1, 2, 3)
	wantNext(t, m, note(1, 0, 0, 1, 2, 3))
	wantTake(t, m, note(0, 1, 0))
	wantNoNext(t, m)
	wantResult(t, m, 1, 2, 3)

	m = member(t, api.AllSwap, 2, 0, 1, 2)
	wantNext(t, m, note(0, 1, 0, 2))
	wantTake(t, m, note(1, 0, 0, 10))
	wantNoNext(t, m)
	wantResult(t, m, 1, 10)
}

// said are the words of note t of a member, by T3's table, if these notes came.
func said(do, many, me, step int, own []int64, came [][]int64) []int64 {
	first := many - 1
	switch {
	case do == api.AllSwap:
		return piece(own, many, mod(me+step+1, many))
	case do == api.AllParts && step == 0:
		return own
	case do == api.AllParts || do == api.AllSum && step > first:
		return came[step-1]
	case step == 0:
		return piece(own, many, mod(me-1, many))
	}
	// Of AllSum this is, with step many - 1, the piece with the member's own number, to which the last of the sums came.
	return plus(piece(own, many, mod(me-step-1, many)), came[step-1])
}

// tellOne are the words that a member is told in its notes: each one is another one.
func tellOne(do, many, me int, own []int64) [][]int64 {
	out := make([][]int64, notesByHand(do, many))
	next := int64(1000)
	for step := range out {
		from, _ := whoByHand(do, many, me, step)
		size := len(own)
		switch {
		case do == api.AllSwap:
			size /= many
		case do == api.AllParts:
			size = step % 4
		case step < many-1:
			size = len(piece(own, many, mod(from-step-1, many)))
		default:
			size = len(piece(own, many, mod(from-(step-many+1), many)))
		}
		for range size {
			out[step] = append(out[step], next)
			next += 7
		}
	}
	return out
}

// ended is what a member has in the end, if these notes came.
func ended(do, many, me int, own []int64, came [][]int64) []int64 {
	last := many - 2
	var out []int64
	for p := range many {
		mine := p == me
		switch back := mod(me-1-p, many); {
		case do == api.ScatterSum && !mine:
		case mine && many > 1 && (do == api.AllSum || do == api.ScatterSum):
			out = append(out, plus(piece(own, many, me), came[last])...)
		case mine && do == api.AllParts:
			out = append(out, own...)
		case mine:
			out = append(out, piece(own, many, me)...)
		case do == api.AllSum:
			out = append(out, came[many-1+back]...)
		default:
			out = append(out, came[back]...)
		}
	}
	return out
}

// all calls of a member, with each note in its turn: T3's table, and that nothing is sent too early.
func goThrough(t *testing.T, m *ring.Member, do, many, me int, own []int64) {
	t.Helper()
	came := tellOne(do, many, me, own)
	for step := range came {
		wantNoResult(t, m)
		from, to := whoByHand(do, many, me, step)
		wantNext(t, m, note(me, to, step, said(do, many, me, step, own, came)...))
		if do != api.AllSwap {
			wantNoNext(t, m)
		}
		wantTake(t, m, note(from, me, step, came[step]...))
	}
	wantNoNext(t, m)
	wantResult(t, m, ended(do, many, me, own, came)...)
	wantNoNext(t, m)
}

// T3, T4: every note of every member, of each kind, in teams of one to as many as there may be, with word counts that the team divides and does not, fewer than it has members, and none.
func TestT3EveryNote(t *testing.T) {
	for _, do := range kinds() {
		for _, many := range []int{1, 2, 3, 4, 5, 15, crowd} {
			for _, words := range []int{0, 1, many - 1, many, many + 1, 2*many + 1, 3 * many, 3*many + many/2} {
				if do == api.AllSwap && words%many != 0 {
					continue
				}
				own := make([]int64, words)
				for k := range own {
					own[k] = int64(k + 1)
				}
				for me := range many {
					goThrough(t, member(t, do, many, me, own...), do, many, me, own)
				}
			}
		}
	}
}

// T4: AllSwap sends all, though nothing came.
func TestT4AllSwap(t *testing.T) {
	for _, many := range []int{1, 2, 3, crowd} {
		for me := range many {
			own := make([]int64, 2*many)
			for k := range own {
				own[k] = int64(k + 1)
			}
			m := member(t, api.AllSwap, many, me, own...)
			for step := range many - 1 {
				to := mod(me+step+1, many)
				wantNext(t, m, note(me, to, step, own[2*to], own[2*to+1]))
			}
			wantNoNext(t, m)
			if many > 1 {
				wantNoResult(t, m)
			}
		}
	}
}

// T4: the next note waits till all up to the one ahead of it were used: that later ones were taken is no help, and all that wait for one can be sent when it comes.
func TestT4Waits(t *testing.T) {
	m := member(t, api.AllSum, 3, 1, 1, 2, 3)
	wantNext(t, m, note(1, 2, 0, 1))
	wantNoNext(t, m)
	wantTake(t, m, note(0, 1, 1, 20), note(0, 1, 2, 30), note(0, 1, 3, 40))
	wantNoNext(t, m)
	wantNoResult(t, m)
	wantTake(t, m, note(0, 1, 0, 10))
	wantResult(t, m, 30, 22, 40)
	// All was used, so they tell what is there now.
	wantNext(t, m, note(1, 2, 1, 40))
	wantNext(t, m, note(1, 2, 2, 22))
	wantNext(t, m, note(1, 2, 3, 30))
	wantNoNext(t, m)

	m = member(t, api.AllParts, 4, 0, 1)
	wantNext(t, m, note(0, 1, 0, 1))
	wantTake(t, m, note(3, 0, 1, 20), note(3, 0, 0, 10))
	wantNext(t, m, note(0, 1, 1, 10))
	wantNext(t, m, note(0, 1, 2, 20))
	wantNoNext(t, m)
	wantNoResult(t, m)
	wantTake(t, m, note(3, 0, 2, 30))
	wantNoNext(t, m)
	wantResult(t, m, 1, 30, 20, 10)
}

// T3: a note tells what the member has when it sends it, whatever was used by then.
func TestT3WhenItSends(t *testing.T) {
	m := member(t, api.AllSum, 3, 1, 1, 2, 3)
	wantTake(t, m, note(0, 1, 0, 10), note(0, 1, 1, 20))
	wantNext(t, m, note(1, 2, 0, 1))
	wantNext(t, m, note(1, 2, 1, 13))
	wantTake(t, m, note(0, 1, 2, 30), note(0, 1, 3, 40))
	wantNext(t, m, note(1, 2, 2, 22))
	wantNext(t, m, note(1, 2, 3, 30))
	wantResult(t, m, 30, 22, 40)

	// Nothing was sent when the second half came.
	m = member(t, api.AllSum, 3, 1, 1, 2, 3)
	wantTake(t, m, note(0, 1, 0, 10), note(0, 1, 1, 20), note(0, 1, 2, 30))
	wantNext(t, m, note(1, 2, 0, 30))
	wantTake(t, m, note(0, 1, 3, 40))
	wantNext(t, m, note(1, 2, 1, 40))
	wantNext(t, m, note(1, 2, 2, 22))
	wantNext(t, m, note(1, 2, 3, 30))
	wantNoNext(t, m)

	// One that is kept is not yet there.
	m = member(t, api.AllSum, 3, 1, 1, 2, 3)
	wantTake(t, m, note(0, 1, 2, 30), note(0, 1, 3, 40), note(0, 1, 1, 20))
	wantNext(t, m, note(1, 2, 0, 1))
	wantNoNext(t, m)

	m = member(t, api.ScatterSum, 3, 0, 1, 2, 3)
	wantTake(t, m, note(2, 0, 1, 20), note(2, 0, 0, 10))
	wantResult(t, m, 21)
	wantNext(t, m, note(0, 1, 0, 3))
	wantNext(t, m, note(0, 1, 1, 12))
	wantNoNext(t, m)
	wantResult(t, m, 21)

	m = member(t, api.AllSwap, 3, 0, 1, 2, 3)
	wantTake(t, m, note(1, 0, 1, 20), note(2, 0, 0, 10))
	wantResult(t, m, 1, 20, 10)
	wantNext(t, m, note(0, 1, 0, 2))
	wantNext(t, m, note(0, 2, 1, 3))
	wantNoNext(t, m)
	wantResult(t, m, 1, 20, 10)
}
