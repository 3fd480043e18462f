package core

import (
	"slices"

	"adjoint/api"
	"adjoint/graph"
	"adjoint/list"
	"adjoint/lower"
	"adjoint/room"
	"adjoint/row"
)

// The semaphores of an image.
const (
	semMoved = 0 // the mover has brought what a piece of work needs
	semMade  = 1 // the maker has made of it what is to be stored
)

// slots is how many stretches of the pad a piece of work needs at the most.
const slots = 3

// making is an image that is being made, piece of work by piece of work. Both halves of the pad are used in turn, so that the mover can bring what the next piece needs while the maker works at one.
type making struct {
	api.Image
	at   []int // where in memory the array of each node lies
	half int   // which one is next
	due  store
}

// line is so many words of memory, each a step further than the one ahead of it.
type line struct{ at, step, words int }

// store is what is still to be stored, from a word of the pad on, as soon as it is made (nothing, if the line has no words).
type store struct {
	line
	word int
}

// compiled is the image of a tidy graph that is neither too heavy nor has Take or Put, its nodes being needed so long. A piece of work takes at most 6 instructions of an engine, and there are never more pieces than a node weighs: so there are not too many.
func compiled(g api.Graph, lives []api.Life, pad int) api.Image {
	m := &making{}
	m.Code.Pad = pad
	m.at, m.Code.Memory, _ = room.Lay(lives)
	place := func(k int) api.Place { return api.Place{At: m.at[k], Words: lives[k].Words} }
	m.Ins, m.Outs = list.Each(list.Others(graph.Params(g)), place), list.Each(g.Outs, place)
	dims, _ := graph.Dims(g)
	for k, one := range lives {
		// A Join of nothing may have thousands of thousands of arguments.
		if one.Words == 0 {
			continue
		}
		for s := range lower.Stmts(g, dims, k) {
			m.stmt(s)
		}
	}
	m.settle()
	return m.Image
}

// stmt lays the code of a statement, piece by piece: a piece is as much of a line along the last dimension as there is room for.
func (m *making) stmt(s api.Stmt) {
	points, long := 1, 1
	for _, dim := range s.Over.Box {
		points *= dim
		long = dim
	}
	most := m.slot()
	if s.Do == api.DoCopy {
		most = m.Code.Pad
	}
	for first := 0; first < points; first += long {
		for from := 0; from < long; from += most {
			m.piece(s, index(s.Over.Box, first+from), min(most, long-from))
		}
	}
}

// index is that of the point of a box, which has points, with so many ahead of it.
func index(box []int, ahead int) []int {
	out := make([]int, len(box))
	for k := len(box) - 1; k >= 0; k-- {
		out[k] = ahead % box[k]
		ahead /= box[k]
	}
	return out
}

// piece lays the code of a statement at so many points, from one on, along the last dimension.
func (m *making) piece(s api.Stmt, x []int, words int) {
	along := func(a api.Access) line {
		return line{m.at[a.Array] + row.Number(a.At, x), lastOf(a.At.Coef), words}
	}
	to, from := along(s.Put), list.Each(s.Get, along)
	switch s.Do {
	case api.DoCopy:
		m.carry(to, from[0])
		return
	case api.DoMore, api.DoMac:
		// Along what is summed all goes into one word.
		if to.step == 0 {
			to.words = 1
		}
		from = slices.Insert(from, 0, to)
	}
	m.work(to, from, m.deeds(s, to.words, words))
}

// lastOf is the last number of a list, or 0.
func lastOf(list []int) int {
	if len(list) == 0 {
		return 0
	}
	return list[len(list)-1]
}

// carry lays the code by which the mover alone copies a line.
func (m *making) carry(to, from line) {
	m.settle()
	m.mover(from.moved(api.InsLoad, 0), to.moved(api.InsStore, 0))
}

// work lays the code of a piece of work: what it needs is loaded into one slot behind the other, and what the first one then is will be stored.
func (m *making) work(to line, from []line, deeds []api.Ins) {
	if slices.ContainsFunc(from, m.due.meets) {
		m.settle()
	}
	for k, l := range from {
		m.mover(l.moved(api.InsLoad, m.word(k)))
	}
	m.mover(api.Ins{Do: api.InsPost, A: semMoved})
	// The maker goes on with this piece while that ahead of it is stored.
	m.settle()
	m.maker(api.Ins{Do: api.InsWait, A: semMoved})
	m.maker(deeds...)
	m.maker(api.Ins{Do: api.InsPost, A: semMade})
	m.due = store{to, m.word(0)}
	m.half = 1 - m.half
}

// settle lays the code that stores what is due.
func (m *making) settle() {
	if m.due.words > 0 {
		m.mover(api.Ins{Do: api.InsWait, A: semMade}, m.due.moved(api.InsStore, m.due.word))
	}
	m.due = store{}
}

// mover adds instructions of the mover.
func (m *making) mover(more ...api.Ins) { m.Code.Mover = append(m.Code.Mover, more...) }

// maker adds instructions of the maker.
func (m *making) maker(more ...api.Ins) { m.Code.Maker = append(m.Code.Maker, more...) }

// slot is how many words a slot has.
func (m *making) slot() int { return m.Code.Pad / (2 * slots) }

// word is the first one of a slot of the half that is next.
func (m *making) word(slot int) int { return (m.half*slots + slot) * m.slot() }

// deeds is what the maker does for a piece of a statement that puts so many words, and gets so many of each of its arrays. What it needs lies in one slot behind the other; what it puts is left in the first one.
func (m *making) deeds(s api.Stmt, puts, words int) []api.Ins {
	a, b, c := m.word(0), m.word(1), m.word(2)
	switch {
	case s.Do == api.DoSet:
		return []api.Ins{{Do: api.InsSet, A: a, N: words, V: s.Value}}
	case s.Do == api.DoPick:
		return []api.Ins{{Do: api.InsPick, A: a, B: b, C: c, N: words}}
	case s.Do == api.DoMore && puts == words:
		return []api.Ins{{Do: api.InsMore, A: a, B: b, N: words}}
	case s.Do == api.DoMac && puts == words:
		return []api.Ins{{Do: api.InsMac, A: a, B: b, C: c, N: words}}
	case s.Do == api.DoMore:
		// A sum is one of products with 1.
		return []api.Ins{{Do: api.InsSet, A: c, N: words, V: 1}, {Do: api.InsInner, A: a, B: b, C: c, N: words}}
	case s.Do == api.DoMac:
		return []api.Ins{{Do: api.InsInner, A: a, B: b, C: c, N: words}}
	}
	return []api.Ins{{Do: wordByWord(s.Do), A: a, B: a, C: b, N: words}}
}

// wordByWord is the instruction that makes of two words what a statement makes of two numbers.
func wordByWord(do int) int {
	switch do {
	case api.DoAdd:
		return api.InsAdd
	case api.DoSub:
		return api.InsSub
	case api.DoMul:
		return api.InsMul
	case api.DoMax:
		return api.InsMax
	}
	return api.InsLess
}

// moved is the instruction that moves a line from or to the pad. Steps along a last dimension are never too great for one: they are at most MaxDim, or those of an array that is not too heavy.
func (l line) moved(do, word int) api.Ins {
	return api.Ins{Do: do, A: word, B: l.at, C: l.step, N: l.words}
}

// meets tells whether two lines may have a word in common: whether neither ends before the other one begins.
func (l line) meets(with line) bool {
	low, high := l.ends()
	first, last := with.ends()
	return l.words > 0 && with.words > 0 && low <= last && first <= high
}

// ends are the lowest and the highest word of a line that has words.
func (l line) ends() (low, high int) {
	last := l.at + (l.words-1)*l.step
	return min(l.at, last), max(l.at, last)
}
