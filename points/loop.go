package points

import "adjoint/api"

// boxLoop is the loop of number k, from 0 on and below an end.
func boxLoop(k, end int) api.Loop {
	flat := func(n int) []api.Bound {
		return []api.Bound{{Row: api.Row{Coef: make([]int, k), Const: n}, Div: 1}}
	}
	return api.Loop{Lows: flat(0), Highs: flat(end - 1)}
}

// bind lets a row bound the loop of the last number on which it hangs: it needs no others then but those of the loops around.
func bind(loops []api.Loop, r api.Row) {
	k := len(r.Coef) - 1
	for k >= 0 && r.Coef[k] == 0 {
		k--
	}
	// One that hangs on no number keeps all points, or there are none.
	if k < 0 {
		return
	}
	loop, div := &loops[k], r.Coef[k]
	if div > 0 {
		loop.Lows = append(loop.Lows, api.Bound{Row: first(r, k, -1), Div: div})
	} else {
		loop.Highs = append(loop.Highs, api.Bound{Row: first(r, k, 1), Div: -div})
	}
}

// first is a row over the first k numbers alone, with all its Coefs and Const multiplied.
func first(r api.Row, k, by int) api.Row {
	out := api.Row{Coef: make([]int, k), Const: by * r.Const}
	for i := range k {
		out.Coef[i] = by * r.Coef[i]
	}
	return out
}
