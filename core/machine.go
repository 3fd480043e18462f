package core

import (
	"adjoint/api"
	"adjoint/array"
)

// machine is code, of which nothing is wrong, at work.
type machine struct {
	api.Code
	words  []int64 // of the pad
	memory []int64
	sems   [api.MaxSems]int
	done   [both]int // how many instructions each engine has done
}

// turns tells, time by time, which engine's turn it is where both can go on.
func turns(picks []int) func() int {
	next := 0
	return func() int {
		if len(picks) == 0 {
			return api.Mover
		}
		pick := picks[next]
		next = (next + 1) % len(picks)
		if pick%2 == 0 {
			return api.Mover
		}
		return api.Maker
	}
}

// work does one instruction after the other, as long as an engine can go on.
func (m *machine) work(turn func() int) {
	for {
		mover, maker := m.goesOn(api.Mover), m.goesOn(api.Maker)
		switch {
		case mover && maker:
			m.step(turn())
		case mover:
			m.step(api.Mover)
		case maker:
			m.step(api.Maker)
		default:
			return
		}
	}
}

// goesOn tells whether an engine can go on.
func (m *machine) goesOn(engine int) bool {
	own, next := engines(m.Code)[engine], m.done[engine]
	return next < len(own) && (own[next].Do != api.InsWait || m.sems[own[next].A] > 0)
}

// ended tells whether both engines are at their end.
func (m *machine) ended() bool { return m.done == [both]int{len(m.Mover), len(m.Maker)} }

// step does the next instruction of an engine that can go on.
func (m *machine) step(engine int) {
	in := engines(m.Code)[engine][m.done[engine]]
	m.done[engine]++
	switch in.Do {
	case api.InsPost:
		m.sems[in.A]++
	case api.InsWait:
		m.sems[in.A]--
	case api.InsLoad:
		m.move(in, func(word, cell *int64) { *word = *cell })
	case api.InsStore:
		m.move(in, func(word, cell *int64) { *cell = *word })
	default:
		m.reckon(in)
	}
}

// move does something with each word of the pad and its word of memory, in order.
func (m *machine) move(in api.Ins, do func(word, cell *int64)) {
	for i := range in.N {
		do(&m.words[in.A+i], &m.memory[in.B+i*in.C])
	}
}

// reckon does an instruction that the maker alone has.
func (m *machine) reckon(in api.Ins) {
	// Without words there need not be the places from which they would be; an Inner then adds nothing.
	if in.N > 0 {
		copy(m.words[in.A:], m.made(in))
	}
}

// made is what an instruction writes, from its word A on; it is new, so nothing is written before all is read.
func (m *machine) made(in api.Ins) []int64 {
	from := func(word int) api.Array {
		return api.Array{Dims: []int{in.N}, Data: m.words[word : word+in.N]}
	}
	do := func(op api.Op, args ...api.Array) api.Array {
		// All have the same dimensions, so nothing can be wrong.
		out, _ := array.Do(op, args)
		return out
	}
	add := api.Op{Kind: api.Add}
	switch in.Do {
	case api.InsSet:
		return do(api.Op{Kind: api.Fill, Dims: []int{in.N}, Value: in.V}).Data
	case api.InsPick:
		return do(api.Op{Kind: api.Pick}, from(in.A), from(in.B), from(in.C)).Data
	case api.InsMac:
		return do(add, from(in.A), do(api.Op{Kind: api.Mul}, from(in.B), from(in.C))).Data
	case api.InsInner:
		products, _ := array.Inner(from(in.B), from(in.C))
		return []int64{m.words[in.A] + products}
	case api.InsMore:
		return do(add, from(in.A), from(in.B)).Data
	}
	return do(api.Op{Kind: kind(in.Do)}, from(in.B), from(in.C)).Data
}

// kind is the operation that an instruction is, word by word.
func kind(do int) int {
	switch do {
	case api.InsAdd:
		return api.Add
	case api.InsSub:
		return api.Sub
	case api.InsMul:
		return api.Mul
	case api.InsMax:
		return api.Max
	}
	return api.Less
}
