package order

import (
	"slices"

	"adjoint/api"
	"adjoint/list"
	"adjoint/points"
	"adjoint/row"
)

// outside is where all places lie that are in no array.
const outside = -1

// place is one of an array.
type place struct{ array, at int }

// spot is a statement at a point, with its time and the places to which its accesses lead there.
type spot struct {
	api.Spot
	time  [api.MaxRows]int // noughts stand behind it: so all times are of one length
	do    int
	value int64
	put   place
	gets  []place
}

// spots are those of a nest, as they stand.
func spots(n api.Nest, times api.Times) ([]spot, api.Errno) {
	if err := Wrong(n, times); err != api.OK {
		return nil, err
	}
	var out []spot
	for k, s := range n.Stmts {
		for x := range points.All(s.Over) {
			if len(out) == api.MaxSpots {
				return nil, api.ErrMuch
			}
			to := func(a api.Access) place { return lead(a, x, n.Sizes) }
			here := spot{Spot: api.Spot{Stmt: k, At: x}, do: s.Do, value: s.Value, put: to(s.Put), gets: list.Each(s.Get, to)}
			for i, r := range times[k] {
				here.time[i] = row.Number(r, x)
			}
			out = append(out, here)
		}
	}
	return out, api.OK
}

// lead is the place to which an access leads at a point.
func lead(a api.Access, x, sizes []int) place {
	at := row.Number(a.At, x)
	if at < 0 || at >= sizes[a.Array] {
		at = outside
	}
	return place{a.Array, at}
}

// byTime is below 0, if the first one's time is the lesser one, 0 if they have the same time.
func byTime(a, b spot) int { return slices.Compare(a.time[:], b.time[:]) }

// adds tells whether a spot puts what is there and something.
func (s spot) adds() bool { return s.do == api.DoMore || s.do == api.DoMac }

// stmt is a statement that does what is done at a spot; it has one point, without numbers.
func (s spot) stmt() api.Stmt {
	return api.Stmt{Do: s.do, Value: s.value, Put: s.put.access(), Get: list.Each(s.gets, place.access)}
}

// access leads to a place, at a point without numbers.
func (p place) access() api.Access { return api.Access{Array: p.array, At: api.Row{Const: p.at}} }
