package view_test

import (
	"fmt"
	"slices"
	"testing"

	"adjoint/api"
	"adjoint/view"
)

func TestV5Reform(t *testing.T) {
	six := of(0, l(2, 3), l(3, 1))
	turned := of(0, l(3, 2), l(1, 3))
	for _, c := range []struct {
		v    api.View
		dims []int
		want api.View
		err  api.Errno
	}{
		{of(4, nil, nil), nil, of(4, nil, nil), api.OK},
		{of(4, nil, nil), ones(6), of(4, ones(6), slices.Repeat(l(0), 6)), api.OK},
		{of(4, ones(3), l(7, 8, 9)), nil, of(4, nil, nil), api.OK},
		{of(4, ones(3), l(7, 8, 9)), ones(3), of(4, ones(3), l(0, 0, 0)), api.OK},
		{six, l(2, 3), six, api.OK},
		{six, l(6), of(0, l(6), l(1)), api.OK},
		{six, l(3, 2), of(0, l(3, 2), l(2, 1)), api.OK},
		{six, l(1, 6, 1), of(0, l(1, 6, 1), l(0, 1, 0)), api.OK},
		{turned, l(3, 2), turned, api.OK},
		{turned, l(3, 1, 2), of(0, l(3, 1, 2), l(1, 0, 3)), api.OK},
		{turned, l(6), api.View{}, api.ErrNone},
		{turned, l(2, 3), api.View{}, api.ErrNone},
		{of(5, l(6), l(-1)), l(2, 3), of(5, l(2, 3), l(-3, -1)), api.OK},
		{of(5, l(6), l(0)), l(3, 2), of(5, l(3, 2), l(0, 0)), api.OK},
		{of(5, l(2, 3), l(0, 0)), l(6), of(5, l(6), l(0)), api.OK},
		{of(5, l(2, 3), l(0, 1)), l(6), api.View{}, api.ErrNone},
		{of(5, l(2, 3), l(1, 0)), l(6), api.View{}, api.ErrNone},
		{of(5, l(2, 4), l(1, 0)), l(2, 2, 2), of(5, l(2, 2, 2), l(1, 0, 0)), api.OK},
		{of(5, l(2, 4), l(1, 0)), l(4, 2), api.View{}, api.ErrNone},
		{of(0, l(2, 3, 4), l(100, 4, 1)), l(2, 12), of(0, l(2, 12), l(100, 1)), api.OK},
		{of(0, l(2, 3, 4), l(100, 4, 1)), l(2, 2, 6), of(0, l(2, 2, 6), l(100, 6, 1)), api.OK},
		{of(0, l(2, 3, 4), l(100, 4, 1)), l(6, 4), api.View{}, api.ErrNone},
		{of(0, l(2, 3, 4), l(100, 4, 1)), l(4, 6), api.View{}, api.ErrNone},
		{of(0, l(2, 1, 3), l(3, reach, 1)), l(6), of(0, l(6), l(1)), api.OK},
		{of(0, l(4096, 16), l(16, 1)), l(16, 4096), of(0, l(16, 4096), l(4096, 1)), api.OK},
		{of(0, l(4096, 16), l(1, 4096)), l(64, 64, 16), of(0, l(64, 64, 16), l(64, 1, 4096)), api.OK},
		{of(0, l(4096, 16), l(1, 4096)), l(16, 4096), api.View{}, api.ErrNone},
		// Without entries all fits, and all steps are 0.
		{of(9, l(0), l(7)), l(0), of(9, l(0), l(0)), api.OK},
		{of(9, l(3, 0), l(7, 8)), l(5, 0, 4096), of(9, l(5, 0, 4096), l(0, 0, 0)), api.OK},
		{of(9, l(0), l(7)), l(0, 4096, 4096, 4096, 4096, 4096), of(9, l(0, 4096, 4096, 4096, 4096, 4096), slices.Repeat(l(0), 6)), api.OK},
		{of(-reach, l(0, 2), l(reach, reach)), l(2, 0), of(-reach, l(2, 0), l(0, 0)), api.OK},
		{six, l(5), api.View{}, api.ErrShape},
		{six, l(7), api.View{}, api.ErrShape},
		{six, nil, api.View{}, api.ErrShape},
		{six, l(0), api.View{}, api.ErrShape},
		{of(0, l(0), l(1)), nil, api.View{}, api.ErrShape},
		{of(0, l(0), l(1)), l(1), api.View{}, api.ErrShape},
		{of(0, nil, nil), l(0), api.View{}, api.ErrShape},
		// Several errors: what Size says, the shape, that there is none, that it goes too far.
		{six, l(4096, 17), api.View{}, api.ErrMuch},
		{six, l(-6), api.View{}, api.ErrRange},
		{six, l(6, 1, 1, 1, 1, 1, 1), api.View{}, api.ErrRank},
		{turned, l(5), api.View{}, api.ErrShape},
		{of(0, l(4, 2), l(reach, 1)), l(2, 4), api.View{}, api.ErrNone},
		{of(0, l(3, 4), l(1, reach)), l(3, 2, 2), api.View{}, api.ErrMuch},
		{of(0, l(4, 3), l(reach, reach)), l(2, 2, 3), api.View{}, api.ErrMuch},
		{of(0, l(3, 4), l(1, reach)), l(6, 2), api.View{}, api.ErrNone},
	} {
		v, err := view.Reform(c.v, c.dims)
		wantView(t, fmt.Sprint("Reform", c.v, c.dims), v, err, c.want, c.err)
	}
}

// shaped is the one view with these dimensions that reads so, if there is one: an entry that is 1 along one dimension, else 0, tells its step.
func shaped(places, dims []int) (api.View, bool) {
	v := of(places[0], dims, make([]int, len(dims)))
	for n, at := range indices(dims) {
		sum := 0
		for _, i := range at {
			sum += i
		}
		if k := slices.Index(at, 1); sum == 1 {
			v.Steps[k] = places[n] - places[0]
		}
	}
	return v, slices.Equal(reads(v), places)
}

// small are dimensions with just so many entries, at most three of them.
func small(size int) [][]int {
	var all [][]int
	for rank := range 4 {
		for _, d := range lists(rank, 1, 2, 3, 4, 6, 8) {
			product := 1
			for _, dim := range d {
				product *= dim
			}
			if product == size {
				all = append(all, d)
			}
		}
	}
	return all
}

func TestV5ReformOfAll(t *testing.T) {
	found, none := 0, 0
	for _, size := range l(1, 2, 4, 6, 8) {
		for _, from := range small(size) {
			for _, steps := range lists(len(from), -2, 0, 1, 2, 3, 4, 6) {
				v := of(11, from, steps)
				for _, to := range small(size) {
					want, there := shaped(reads(v), to)
					got, err := view.Reform(v, to)
					what := fmt.Sprint("Reform", v, to)
					if !there {
						none++
						wantView(t, what, got, err, api.View{}, api.ErrNone)
						continue
					}
					found++
					wantView(t, what, got, err, want, api.OK)
				}
			}
		}
	}
	if found == 0 || none == 0 {
		t.Errorf("%d are found, %d not", found, none)
	}
}
