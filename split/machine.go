package split

import (
	"slices"
	"sync"

	"adjoint/api"
	"adjoint/array"
	"adjoint/list"
	"adjoint/ring"
)

// machine is one of those that work by a layout.
type machine struct {
	*layout
	me    int
	has   []api.Array       // what it has of the steps that it has done
	wires [][]chan api.Note // from each machine to each
}

// worked is what each machine has of each step, of arguments that fit: all of them work at the same time.
func worked(l *layout, args []api.Array) [][]api.Array {
	wires := wired(l.Many)
	team := make([]*machine, l.Many)
	var group sync.WaitGroup
	for me := range team {
		m := &machine{layout: l, me: me, wires: wires}
		team[me] = m
		group.Add(1)
		go func() {
			defer group.Done()
			m.work(args)
		}()
	}
	group.Wait()
	out := make([][]api.Array, len(l.Steps))
	for k := range out {
		out[k] = list.Each(team, func(m *machine) api.Array { return m.has[k] })
	}
	return out
}

// wired are wires from each machine to each. One note can wait in a wire: as each machine sends a note, and then takes the one of the same number, the one that is farthest behind always finds room for its note, and the note for it.
func wired(many int) [][]chan api.Note {
	wires := make([][]chan api.Note, many)
	for from := range wires {
		for range many {
			wires[from] = append(wires[from], make(chan api.Note, 1))
		}
	}
	return wires
}

// work does one step after the other.
func (m *machine) work(args []api.Array) {
	for k, a := range args {
		m.has = append(m.has, m.partOf(a, m.lies[k], m.me))
	}
	for _, step := range m.Steps[len(args):] {
		m.has = append(m.has, m.made(step))
	}
}

// made is what the machine has of a step.
func (m *machine) made(step api.Step) api.Array {
	args := list.These(m.has, step.Args)
	if step.Do == api.StepLocal {
		// The layout of a right graph has nothing but operations that fit.
		out, _ := array.Do(step.Op, args)
		return out
	}
	a := args[0]
	switch step.Do {
	case api.StepSum:
		return api.Array{Dims: list.Fresh(a.Dims), Data: m.talk(api.AllSum, a.Data)}
	case api.StepGather:
		return m.joined(m.talk(api.AllParts, a.Data), a.Dims, step.At)
	case api.StepSwap:
		return m.swapped(a, step.At, step.To)
	}
	return m.partOf(a, step.At, m.me)
}

// swapped is what the machine has of an array that was cut along one dimension, once it is cut along another one.
func (m *machine) swapped(a api.Array, at, to int) api.Array {
	var words []int64
	for other := range m.Many {
		words = append(words, m.partOf(a, to, other).Data...)
	}
	return m.joined(m.talk(api.AllSwap, words), m.share(a.Dims, to), at)
}

// talk is what the machine has when all have done together what this kind of a team does.
func (m *machine) talk(do int, words []int64) []int64 {
	// All words are those of an array, so there are not too many; those that are swapped were cut into as many parts as there are machines.
	member, _ := ring.New(do, m.Many, m.me, words)
	for note, more := member.Next(); more; note, more = member.Next() {
		m.wires[m.me][note.To] <- note
		// It comes from as far behind as the machine's own note goes ahead.
		from := (2*m.me - note.To + m.Many) % m.Many
		member.Take(<-m.wires[from][m.me])
	}
	out, _ := member.Result()
	return out
}

// joined is the array of which these are the words of each machine's part, that of machine 0 first, each with these dimensions.
func (m *machine) joined(words []int64, dims []int, along int) api.Array {
	long := len(words) / m.Many
	parts := make([]api.Array, m.Many)
	for k := range parts {
		parts[k] = api.Array{Dims: dims, Data: words[k*long : (k+1)*long]}
	}
	out, _ := array.Do(api.Op{Kind: api.Join, At: []int{along}}, parts)
	return out
}

// partOf is what a machine has of an array, once it lies so; in new memory, even if it is all of it.
func (m *machine) partOf(a api.Array, lies, of int) api.Array {
	rank := len(a.Dims)
	cut := api.Op{Kind: api.Cut, Lo: make([]int, rank), Hi: list.Fresh(a.Dims), Step: slices.Repeat([]int{1}, rank)}
	if lies != api.Everywhere {
		long := a.Dims[lies] / m.Many
		cut.Lo[lies], cut.Hi[lies] = of*long, (of+1)*long
	}
	out, _ := array.Do(cut, []api.Array{a})
	return out
}
