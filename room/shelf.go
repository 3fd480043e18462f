package room

import (
	"cmp"
	"slices"

	"adjoint/api"
)

// takesRoom tells whether a life has words at any time.
func takesRoom(one api.Life) bool { return one.Words > 0 && one.To > one.From }

// change says that so many words more are needed from a time on; below 0: less.
type change struct{ time, words int }

// changes are those of all lives, in their turn.
func changes(l []api.Life) []change {
	out := make([]change, 0, 2*len(l))
	for _, one := range l {
		out = append(out, change{one.From, one.Words}, change{one.To, -one.Words})
	}
	// What ends at a time is gone ahead of what begins then: so neither lives that only touch count together, nor do those that end as they begin count at all.
	slices.SortFunc(out, func(a, b change) int {
		return cmp.Or(cmp.Compare(a.time, b.time), cmp.Compare(a.words, b.words))
	})
	return out
}

// byFrom are the numbers of lives in the order in which they are laid.
func byFrom(l []api.Life) []int {
	out := make([]int, len(l))
	for k := range out {
		out[k] = k
	}
	slices.SortStableFunc(out, func(a, b int) int { return cmp.Compare(l[a].From, l[b].From) })
	return out
}

// laid is a life and where it lies.
type laid struct {
	api.Life
	at int
}

// shelf is what lies in memory at one time, from the lowest place on.
type shelf struct{ things []laid }

// clear takes away what is needed no more at a time. What is laid by then has begun, so all that stays is needed.
func (s *shelf) clear(time int) {
	s.things = slices.DeleteFunc(s.things, func(one laid) bool { return one.To <= time })
}

// put lays a life at the lowest place at which there is room for it, and tells where that is.
func (s *shelf) put(one api.Life) int {
	k, at := s.gap(one.Words)
	s.things = append(s.things, laid{})
	copy(s.things[k+1:], s.things[k:])
	s.things[k] = laid{Life: one, at: at}
	return at
}

// gap is the lowest place with so many free words, and how many lie below it.
func (s *shelf) gap(words int) (below, at int) {
	for k, one := range s.things {
		if at+words <= one.at {
			return k, at
		}
		at = one.at + one.Words
	}
	return len(s.things), at
}
