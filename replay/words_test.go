package replay_test

import (
	"math/big"
	"testing"

	"adjoint/api"
	"adjoint/graph"
	"adjoint/slope"
)

// playByHand is Play by the words of R1.
func playByHand(n, slots int, moves []api.Move) (int, api.Errno) {
	if n < 0 || n > 256 || slots < 0 || slots > 16 {
		return 0, api.ErrRange
	}
	current, left, cost := 0, n, 0
	kept := map[int]int{}
	for _, m := range moves {
		state, there := kept[m.N]
		isSlot := 0 <= m.N && m.N <= slots-1
		switch {
		case m.Do < 1 || m.Do > 4:
			return 0, api.ErrKind
		case (m.Do == 2 || m.Do == 3) && !isSlot:
			return 0, api.ErrRange
		case m.Do == 3 && !there:
			return 0, api.ErrNone
		case m.Do == 1 && current == n:
			return 0, api.ErrState
		case m.Do == 4 && (left == 0 || current != left-1):
			return 0, api.ErrState
		case m.Do == 1:
			current, cost = current+1, cost+1
		case m.Do == 2:
			kept[m.N] = current
		case m.Do == 3:
			current = state
		case m.Do == 4:
			left--
		}
	}
	if left != 0 {
		return 0, api.ErrState
	}
	return cost, api.OK
}

// costs are T of R2, by its words, as far as they have been asked for.
type costs map[[2]int]int

func (c costs) of(n, s int) int {
	if n < 2 {
		return 0
	}
	if cost, ok := c[[2]int{n, s}]; ok {
		return cost
	}
	first := 1
	if s == 1 {
		first = n - 1
	}
	least := 1 << 40
	for k := first; k <= n-1; k++ {
		least = min(least, k+c.of(k, s)+c.of(n-k, s-1))
	}
	c[[2]int{n, s}] = least
	return least
}

// closed is T without going through smaller ones: r times n, less how many ways there are to choose s + 1 of s + r, with the least r for which as many as n ways are there to choose s of s + r.
func closed(n, s int) int {
	if n < 2 {
		return 0
	}
	ways := func(of, some int) int { return int(new(big.Int).Binomial(int64(of), int64(some)).Int64()) }
	r := 0
	for ways(s+r, s) < n {
		r++
	}
	return r*n - ways(s+r, s+1)
}

// spot is what stands in a play: the current state, how many steps are left, and what is in up to 3 slots (-1: nothing).
type spot struct {
	current, left int
	slots         [3]int
}

// cheapest is what a play that comes to an end costs at least, found by trying all moves from all that can come: first what costs nothing, then what costs one more.
func cheapest(n, slots int) (int, bool) {
	reach := []spot{{left: n, slots: [3]int{-1, -1, -1}}}
	seen := map[spot]bool{reach[0]: true}
	for cost := 0; len(reach) > 0; cost++ {
		var next []spot
		for k := 0; k < len(reach); k++ {
			at := reach[k]
			if at.left == 0 {
				return cost, true
			}
			for _, free := range freely(at, slots) {
				if !seen[free] {
					seen[free] = true
					reach = append(reach, free)
				}
			}
			if at.current < n {
				at.current++
				next = append(next, at)
			}
		}
		reach = reach[:0]
		for _, at := range next {
			if !seen[at] {
				seen[at] = true
				reach = append(reach, at)
			}
		}
	}
	return 0, false
}

// freely is all that comes of a spot by one move that costs nothing.
func freely(at spot, slots int) []spot {
	var all []spot
	for k := range slots {
		kept, loaded := at, at
		kept.slots[k] = at.current
		all = append(all, kept)
		if at.slots[k] >= 0 {
			loaded.current = at.slots[k]
			all = append(all, loaded)
		}
	}
	if at.current == at.left-1 {
		at.left--
		all = append(all, at)
	}
	return all
}

// eval is what a right graph that gives one array gives of arguments that fit.
func eval(t *testing.T, g api.Graph, args ...api.Array) api.Array {
	t.Helper()
	got, err := graph.Eval(g, args)
	if err != api.OK || len(got) != 1 {
		t.Fatalf("%v of %v: %v, %d", g, args, got, err)
	}
	return got[0]
}

// gradientByWords is Gradient by the words of R5, with all states kept.
func gradientByWords(t *testing.T, g api.Graph, n int, x, u api.Array) api.Array {
	t.Helper()
	reverse, err := slope.Reverse(g)
	if err != api.OK {
		t.Fatalf("%v has no reverse: %d", g, err)
	}
	states := []api.Array{x}
	for k := range n {
		states = append(states, eval(t, g, states[k]))
	}
	for k := n - 1; k >= 0; k-- {
		u = eval(t, reverse, states[k], u)
	}
	return u
}
