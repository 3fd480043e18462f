package core

import (
	"slices"

	"adjoint/api"
)

// fences tells of each instruction of one engine how many of the other one's are ahead of it (C4): those that are stand at the beginning.
func fences(own, others []api.Ins) []int {
	var posts [api.MaxSems][]int // of each post, how many instructions end with it
	for k, in := range others {
		if in.Do == api.InsPost {
			posts[in.A] = append(posts[in.A], k+1)
		}
	}
	out := make([]int, len(own))
	ahead := 0
	for k, in := range own {
		if in.Do == api.InsWait {
			ahead = max(ahead, take(&posts[in.A], len(others)))
		}
		out[k] = ahead
	}
	return out
}

// take takes the first number away from a list, and tells it; where there is none, it tells another one.
func take(list *[]int, none int) int {
	if len(*list) == 0 {
		return none
	}
	first := (*list)[0]
	*list = (*list)[1:]
	return first
}

// trail tells of each word of the pad the last instruction, of those of the maker that came by so far, which touched it, and which wrote it: how many end with it (0: none did).
type trail struct{ touched, written []int }

// mark tells that an instruction came by.
func (t *trail) mark(k int, what touches) {
	for _, s := range what.reads {
		leave(t.touched, s, k+1)
	}
	leave(t.touched, what.writes, k+1)
	leave(t.written, what.writes, k+1)
}

// leave puts a number at all words of a stretch.
func leave(words []int, s stretch, n int) {
	for i := range s.words {
		words[s.from+i] = n
	}
}

// crosses tells whether an instruction of the mover is in the way of one that came by, but for so many at the beginning.
func (t *trail) crosses(what touches, but int) bool {
	later := func(words []int, s stretch) bool {
		return s.words > 0 && slices.Max(words[s.from:s.from+s.words]) > but
	}
	// The mover reads one stretch at the most.
	return later(t.touched, what.writes) || later(t.written, what.reads[0])
}

// race is the first one in code of which nothing is wrong. Both engines are gone through once, as what is ahead of an instruction only becomes more from one to the next: those of the maker that are neither ahead of one of the mover nor behind it are a stretch, both ends of which go on.
func race(c api.Code) api.Race {
	ahead, behind := fences(c.Mover, c.Maker), fences(c.Maker, c.Mover)
	t := trail{make([]int, c.Pad), make([]int, c.Pad)}
	end := 0
	for i, in := range c.Mover {
		for ; end < len(c.Maker) && behind[end] <= i; end++ {
			t.mark(end, touched(c.Maker[end]))
		}
		what := touched(in)
		if !t.crosses(what, ahead[i]) {
			continue
		}
		inTheWay := func(in api.Ins) bool {
			maker := touched(in)
			return what.spoils(maker) || maker.spoils(what)
		}
		first := slices.IndexFunc(c.Maker[ahead[i]:], inTheWay)
		return api.Race{Any: true, Mover: i, Maker: ahead[i] + first}
	}
	return api.Race{}
}
