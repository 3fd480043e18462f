package core

import "adjoint/api"

// both is how many engines there are.
const both = 2

// engines is the code of each engine, by its number.
func engines(c api.Code) [both][]api.Ins {
	return [both][]api.Ins{api.Mover: c.Mover, api.Maker: c.Maker}
}

// stretch is so many words of the pad, from one on.
type stretch struct{ from, words int }

// within tells whether all of it is in a pad of so many words.
func (s stretch) within(pad int) bool {
	return s.words == 0 || s.from >= 0 && s.from+s.words <= pad
}

// meets tells whether two have a word in common.
func (s stretch) meets(with stretch) bool {
	return max(s.from, with.from) < min(s.from+s.words, with.from+with.words)
}

// touches is what an instruction reads and writes; what it does not need has no words.
type touches struct {
	reads  [3]stretch
	writes stretch
}

// touched is what an instruction reads and writes (C1).
func touched(in api.Ins) touches {
	a, b, c := stretch{in.A, in.N}, stretch{in.B, in.N}, stretch{in.C, in.N}
	switch in.Do {
	case api.InsPost, api.InsWait:
		return touches{}
	case api.InsLoad, api.InsSet:
		return touches{writes: a}
	case api.InsStore:
		return touches{reads: [3]stretch{a}}
	case api.InsPick, api.InsMac:
		return touches{[3]stretch{a, b, c}, a}
	case api.InsInner:
		// This word is read and written even if there is nothing to add to it.
		one := stretch{in.A, 1}
		return touches{[3]stretch{one, b, c}, one}
	case api.InsMore:
		return touches{[3]stretch{a, b}, a}
	}
	return touches{[3]stretch{b, c}, a}
}

// within tells whether all of it is in a pad of so many words.
func (t touches) within(pad int) bool {
	for _, s := range t.reads {
		if !s.within(pad) {
			return false
		}
	}
	return t.writes.within(pad)
}

// spoils tells whether a word is written that another instruction reads or writes.
func (t touches) spoils(its touches) bool {
	for _, s := range its.reads {
		if t.writes.meets(s) {
			return true
		}
	}
	return t.writes.meets(its.writes)
}

// has tells whether an engine has a kind of instruction.
func has(engine, do int) bool {
	switch do {
	case api.InsPost, api.InsWait:
		return true
	case api.InsLoad, api.InsStore:
		return engine == api.Mover
	}
	return engine == api.Maker && do >= api.InsSet && do <= api.InsMore
}

// wrongIns is what is wrong with an instruction of an engine.
func wrongIns(c api.Code, engine int, in api.Ins) api.Errno {
	if !has(engine, in.Do) {
		return api.ErrKind
	}
	if in.Do == api.InsPost || in.Do == api.InsWait {
		if in.A < 0 || in.A >= api.MaxSems {
			return api.ErrRange
		}
		return api.OK
	}
	far := func(n int) bool { return n < -api.MaxWords || n > api.MaxWords }
	if in.N < 0 || in.N > api.MaxPad || far(in.A) || far(in.B) || far(in.C) {
		return api.ErrRange
	}
	if !touched(in).within(c.Pad) || !finds(c, in) {
		return api.ErrRange
	}
	return api.OK
}

// finds tells whether all words of memory that an instruction takes or puts are there. They lie between its first and its last one.
func finds(c api.Code, in api.Ins) bool {
	if in.Do != api.InsLoad && in.Do != api.InsStore || in.N == 0 {
		return true
	}
	last := in.B + (in.N-1)*in.C
	return min(in.B, last) >= 0 && max(in.B, last) < c.Memory
}

// clashes tells whether a semaphore goes both ways. Whoever posts one has it go from himself to the other engine; whoever waits on one has it come from the other engine to himself.
func clashes(c api.Code) bool {
	var goes [api.MaxSems][both]bool // by the engine from which it goes
	for engine, own := range engines(c) {
		for _, in := range own {
			switch in.Do {
			case api.InsPost:
				goes[in.A][engine] = true
			case api.InsWait:
				goes[in.A][other(engine)] = true
			}
		}
	}
	for _, ways := range goes {
		if ways == [both]bool{true, true} {
			return true
		}
	}
	return false
}

// other is the other engine.
func other(engine int) int {
	if engine == api.Mover {
		return api.Maker
	}
	return api.Mover
}
