package split_test

import (
	"testing"

	"adjoint/api"
	"adjoint/graph"
	"adjoint/ring"
)

// X5: each kind of step alone, in teams of all sizes; one machine sends nothing.
func TestX5EachKind(t *testing.T) {
	local := last(par(0, 48, 5), on(flip(1), 0))
	total := last(par(0, 48, 5), on(sum(0), 0))
	gather := last(par(0, 48, 5), on(flip(0), 0))
	two := last(par(0, 48, 48), par(1, 48, 48), on(bare(api.Add), 0, 1))
	for many := 1; many <= crowd; many++ {
		wantWords(t, local, many, l(every), 0)
		wantWords(t, two, many, l(every, every), 0)
		if 48%many != 0 {
			continue
		}
		wantWords(t, local, many, l(0), 0)
		wantWords(t, total, many, l(0), 2*(many-1)*5)
		wantWords(t, gather, many, l(0), (many-1)*48*5)
		// An own, and a swap.
		wantWords(t, two, many, l(0, every), 0)
		wantWords(t, two, many, l(every, 1), 0)
		wantWords(t, two, many, l(0, 1), (many-1)*48*48/many)
	}
	// Of nothing no words are sent.
	wantWords(t, last(par(0, 0, 4), on(flip(0), 0)), 4, l(0), 0)
	wantWords(t, last(par(0, 0, 4), on(sum(1), 0)), 4, l(1), 0)
	// The sum of no numbers is one.
	wantWords(t, last(par(0, 0), on(sum(0), 0)), 4, l(0), 6)
	wantWords(t, api.Graph{}, 4, nil, 0)
}

// X5: all kinds together; what is brought anew is sent anew, what nobody needs is not sent.
func TestX5Together(t *testing.T) {
	add, mul := bare(api.Add), bare(api.Mul)
	g := last(par(0, 4, 6), par(1, 4, 6), on(add, 0, 1), on(mul, 0, 1), on(add, 2, 3), on(sum(0), 4), on(flip(0), 1))
	g.Outs = l(5)
	// Two swaps of 12 entries and a sum of 6.
	wantWords(t, g, 2, l(0, 1), 12+12+2*6)
	// Two swaps of 12 entries; each has its part of the sum.
	wantWords(t, g, 2, l(1, 0), 12+12)
	// Two owns, and a sum.
	wantWords(t, g, 2, l(every, 0), 2*6)
	// What is flipped, too: it is gathered.
	g.Outs = l(5, 6)
	wantWords(t, g, 2, l(every, 0), 2*6+24)
	// The matrix product of example 2's kind, on four machines: a swap of 4 entries, and a sum of 16.
	wantWords(t, last(par(0, 4, 4), par(1, 4, 4), on(dot(l(1), l(0), nil, nil), 0, 1)), 4, l(1, 1), 3*4+2*3*16)
}

// X5 counts the words of the notes by which a team does the same (chapter 14).
func TestX5AsATeamSends(t *testing.T) {
	sent := func(do, many, words int) int {
		all := 0
		var team []*ring.Member
		for me := range many {
			m, err := ring.New(do, many, me, make([]int64, words))
			if err != api.OK {
				t.Fatal(err)
			}
			team = append(team, m)
		}
		for more := true; more; {
			more = false
			for _, m := range team {
				if n, ok := m.Next(); ok {
					all, more = all+len(n.Data), true
					team[n.To].Take(n)
				}
			}
		}
		return all
	}
	for _, many := range l(1, 2, 3, 4, 6, 12) {
		wantWords(t, last(par(0, 12, 5), on(sum(0), 0)), many, l(0), sent(api.AllSum, many, 5))
		wantWords(t, last(par(0, 12, 5), on(flip(0), 0)), many, l(0), sent(api.AllParts, many, 60/many))
		two := last(par(0, 12, 12), par(1, 12, 12), on(bare(api.Add), 0, 1))
		wantWords(t, two, many, l(0, 1), sent(api.AllSwap, many, 144/many))
	}
}

// X5: nothing wraps, however much is sent: so many that they could be no int32.
func TestX5VeryMany(t *testing.T) {
	nodes := []api.Node{par(0, 4096, 16), on(flip(0), 0)}
	for k := len(nodes); k < api.MaxNodes; k++ {
		// Each keeps another number of rows, so that no two are alike.
		nodes = append(nodes, on(cut(l(0, 0), l(k, 16), l(1, 1)), 0))
	}
	g := giving(nil, nodes...)
	for k := range nodes {
		g.Outs = append(g.Outs, k)
	}
	if err := graph.Wrong(g); err != api.OK {
		t.Fatal(err)
	}
	wantWords(t, g, crowd, l(0), (api.MaxNodes-1)*15*65536)
}
