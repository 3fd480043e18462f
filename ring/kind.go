package ring

import "adjoint/api"

// kind is how a kind goes.
type kind struct {
	even   bool                                  // all pieces must be of one size
	waits  bool                                  // a note is sent when all notes of lower steps that the member takes were used
	begin  func(own []int64, many, me int) stock // what a member has at first
	rounds []round                               // in each of them a member sends as many notes as there are others
	fits   func(words, piece int) bool           // whether a note may have so many words, if the piece has so many
	place  func(from, piece int) int             // where a note's words belong in what the one who takes it has
	result func(has [][]int64, me int) [][]int64 // what of it is told in the end
}

// round is how notes go round once. Numbers of members and of pieces are meant modulo how many there are.
type round struct {
	far   func(t int) int                  // how many members further note t goes
	piece func(me, t int) int              // which piece of member me's it is
	use   func(old, words []int64) []int64 // what is in its place when it was used
}

// kindOf is how a kind goes, if there is such a one.
func kindOf(do int) (kind, bool) {
	next := func(int) int { return 1 }
	sum := round{next, func(me, t int) int { return me - t - 1 }, added}
	hand := round{next, func(me, t int) int { return me - t }, instead}
	swap := round{func(t int) int { return t + 1 }, func(me, t int) int { return me + t + 1 }, instead}

	same := func(words, piece int) bool { return words == piece }
	some := func(words, _ int) bool { return words <= api.MaxSize }

	byPiece := func(_, piece int) int { return piece }
	bySender := func(from, _ int) int { return from }

	all := func(has [][]int64, _ int) [][]int64 { return has }
	mine := func(has [][]int64, me int) [][]int64 { return has[me : me+1] }

	switch do {
	case api.AllSum:
		return kind{waits: true, begin: cut, rounds: []round{sum, hand}, fits: same, place: byPiece, result: all}, true
	case api.ScatterSum:
		return kind{waits: true, begin: cut, rounds: []round{sum}, fits: same, place: byPiece, result: mine}, true
	case api.AllParts:
		return kind{waits: true, begin: whole, rounds: []round{hand}, fits: some, place: byPiece, result: all}, true
	case api.AllSwap:
		return kind{even: true, begin: apart, rounds: []round{swap}, fits: same, place: bySender, result: all}, true
	}
	return kind{}, false
}

// added is what was there with what came, word by word.
func added(old, words []int64) []int64 {
	for i, word := range words {
		old[i] += word
	}
	return old
}

// instead is what came.
func instead(_, words []int64) []int64 { return words }
