package order

import "adjoint/api"

// touch is who touched a place: the numbers of the spots that put into it, and of those that got from it.
type touch struct{ put, got []int }

// look finds, of all pairs that are in each other's way and with which something is amiss, the one whose later spot stands first, and then whose earlier one does.
func look(n api.Nest, times api.Times, amiss func(a, b spot) bool) (api.Found, api.Errno) {
	all, err := spots(n, times)
	if err != api.OK {
		return api.Found{}, err
	}
	touched := map[place]touch{}
	for k, b := range all {
		// What is put outside goes nowhere, so whatever such a spot gets, it is in nobody's way.
		if b.put.at == outside {
			continue
		}
		first := k
		for _, a := range ahead(touched, all, b) {
			if a < first && amiss(all[a], b) {
				first = a
			}
		}
		if first < k {
			return api.Found{Any: true, A: all[first].Spot, B: b.Spot}, api.OK
		}
		mark(touched, k, b)
	}
	return api.Found{}, api.OK
}

// ahead are the numbers of those, of all that have touched a place, that are in a spot's way.
func ahead(touched map[place]touch, all []spot, b spot) []int {
	there := touched[b.put]
	var out []int
	for _, a := range there.put {
		if !all[a].adds() || !b.adds() {
			out = append(out, a)
		}
	}
	out = append(out, there.got...)
	for _, from := range b.gets {
		out = append(out, touched[from].put...)
	}
	return out
}

// mark notes which places a spot touches.
func mark(touched map[place]touch, k int, s spot) {
	to := touched[s.put]
	to.put = append(to.put, k)
	touched[s.put] = to
	for _, p := range s.gets {
		from := touched[p]
		from.got = append(from.got, k)
		touched[p] = from
	}
}
