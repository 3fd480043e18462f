package view_test

import (
	"fmt"
	"slices"
	"testing"

	"adjoint/api"
	"adjoint/view"
)

func TestV3Wrong(t *testing.T) {
	for _, c := range []struct {
		v   api.View
		err api.Errno
	}{
		{api.View{}, api.OK},
		{of(0, l(2, 3), l(3, 1)), api.OK},
		{of(0, l(2, 3), l(0, 0)), api.OK},
		{of(reach, l(1), l(reach)), api.OK},
		{of(-reach, l(4096), l(-reach)), api.OK},
		{of(5, l(0), l(7)), api.OK},
		{of(reach, slices.Repeat(l(4), 6), slices.Repeat(l(-reach), 6)), api.OK},
		{of(0, ones(7), ones(7)), api.ErrRank},
		{of(0, l(-1), l(1)), api.ErrRange},
		{of(0, l(4097), l(1)), api.ErrRange},
		{of(0, l(4096, 17), l(1, 1)), api.ErrMuch},
		{of(0, l(2), nil), api.ErrShape},
		{of(0, nil, l(1)), api.ErrShape},
		{of(0, l(2, 3), l(1)), api.ErrShape},
		{of(0, l(2, 3), l(1, 1, 1)), api.ErrShape},
		{of(0, l(0), nil), api.ErrShape},
		{of(reach+1, nil, nil), api.ErrRange},
		{of(-reach-1, nil, nil), api.ErrRange},
		{of(most, l(2), l(1)), api.ErrRange},
		{of(least, l(2), l(1)), api.ErrRange},
		{of(0, l(2, 3), l(reach+1, 1)), api.ErrRange},
		{of(0, l(2, 3), l(1, reach+1)), api.ErrRange},
		{of(0, l(2, 3), l(1, -reach-1)), api.ErrRange},
		{of(0, l(1), l(most)), api.ErrRange},
		{of(0, l(0), l(least)), api.ErrRange},
		// Several errors: Size, then the number of steps, then how far they go.
		{of(reach+1, l(4096, 17), l(reach+1)), api.ErrMuch},
		{of(reach+1, ones(7), nil), api.ErrRank},
		{of(reach+1, l(2, 3), l(1)), api.ErrShape},
		{of(0, l(2), l(reach+1, 0)), api.ErrShape},
	} {
		if err := view.Wrong(c.v); err != c.err {
			t.Errorf("Wrong %v: %d, not %d", c.v, err, c.err)
		}
		places, err := view.Reads(c.v)
		want := []int(nil)
		if c.err == api.OK {
			want = reads(c.v)
		}
		if err != c.err || !slices.Equal(places, want) {
			t.Errorf("Reads %v: %d places, %d", c.v, len(places), err)
		}
	}
}

func TestV3Whole(t *testing.T) {
	for _, c := range []struct{ dims, steps []int }{
		{nil, nil},
		{l(1), l(1)},
		{l(4096), l(1)},
		{l(2, 3), l(3, 1)},
		{l(2, 3, 4), l(12, 4, 1)},
		{l(1, 5, 1, 2), l(10, 2, 2, 1)},
		{ones(6), ones(6)},
		{l(4096, 16), l(16, 1)},
		{l(16, 4096), l(4096, 1)},
		{l(0), l(0)},
		{l(2, 0, 4), l(0, 0, 0)},
		{l(0, 5), l(0, 0)},
		{l(5, 0), l(0, 0)},
		{l(0, 4096, 4096, 4096, 4096, 4096), slices.Repeat(l(0), 6)},
	} {
		v, err := view.Whole(c.dims)
		wantView(t, fmt.Sprint("Whole", c.dims), v, err, of(0, c.dims, c.steps), api.OK)
	}
}

func TestV3WholeReadsEachPlace(t *testing.T) {
	for _, d := range append(lists(3, 0, 1, 2, 5), nil, l(2, 1, 3, 1, 2, 2), l(4096, 16)) {
		v, _ := view.Whole(d)
		places, err := view.Reads(v)
		size, _ := view.Size(d)
		if err != api.OK || len(places) != size {
			t.Errorf("%v: %d places, %d", d, len(places), err)
		}
		for n, place := range places {
			if place != n {
				t.Fatalf("%v: entry %d lies at %d", d, n, place)
			}
		}
	}
}

func TestV3Reads(t *testing.T) {
	for _, c := range []struct {
		v      api.View
		places []int
	}{
		{of(5, nil, nil), l(5)},
		{of(-reach, nil, nil), l(-reach)},
		{of(5, l(2, 3), l(-1, 2)), l(5, 7, 9, 4, 6, 8)},
		{of(0, l(3, 2), l(1, 3)), l(0, 3, 1, 4, 2, 5)},
		{of(7, l(2, 2), l(0, 0)), l(7, 7, 7, 7)},
		{of(7, l(1, 1), l(50, 60)), l(7)},
		{of(7, l(3, 0), l(1, 1)), nil},
		{of(7, l(0, 4096, 4096, 4096, 4096, 4096), ones(6)), nil},
		{of(7, l(4096, 4096, 4096, 4096, 4096, 0), ones(6)), nil},
		{of(reach, l(3), l(reach)), l(reach, 2*reach, 3*reach)},
		{of(-reach, l(2, 2), l(-reach, -reach)), l(-reach, -2*reach, -2*reach, -3*reach)},
	} {
		places, err := view.Reads(c.v)
		wantList(t, fmt.Sprint("Reads", c.v), places, err, c.places, api.OK)
	}
}

func TestV3ReadsInOrder(t *testing.T) {
	for _, d := range lists(3, 0, 1, 2, 3) {
		for _, s := range lists(3, -7, 0, 1, 4) {
			v := of(3, d, s)
			places, err := view.Reads(v)
			wantList(t, fmt.Sprint("Reads", v), places, err, reads(v), api.OK)
		}
	}
}
