package view_test

import (
	"fmt"
	"slices"
	"testing"

	"adjoint/api"
	"adjoint/view"
)

// What is wrong with a view is told first, whatever else is wrong.
func TestV4WrongViews(t *testing.T) {
	for err, bad := range badViews() {
		for name, change := range changes() {
			v, got := change(bad)
			wantView(t, name, v, got, api.View{}, err)
		}
		for name, change := range wrongChanges() {
			v, got := change(bad)
			wantView(t, name+" that is wrong", v, got, api.View{}, err)
		}
	}
}

func TestV4Turn(t *testing.T) {
	six := of(9, l(2, 3, 1, 4, 0, 5), l(1, 2, 3, 4, 5, 6))
	for _, c := range []struct {
		v    api.View
		perm []int
		want api.View
		err  api.Errno
	}{
		{of(4, nil, nil), nil, of(4, nil, nil), api.OK},
		{of(4, l(3), l(-2)), l(0), of(4, l(3), l(-2)), api.OK},
		{of(0, l(2, 3), l(3, 1)), l(1, 0), of(0, l(3, 2), l(1, 3)), api.OK},
		{of(0, l(2, 3), l(3, 1)), l(0, 1), of(0, l(2, 3), l(3, 1)), api.OK},
		{of(0, l(2, 3, 4), l(12, 4, 1)), l(2, 0, 1), of(0, l(4, 2, 3), l(1, 12, 4)), api.OK},
		{of(0, l(2, 3, 4), l(12, 4, 1)), l(1, 2, 0), of(0, l(3, 4, 2), l(4, 1, 12)), api.OK},
		{six, l(5, 0, 4, 1, 3, 2), of(9, l(5, 2, 0, 3, 4, 1), l(6, 1, 5, 2, 4, 3)), api.OK},
		{of(reach, l(1, 2), l(-reach, reach)), l(1, 0), of(reach, l(2, 1), l(reach, -reach)), api.OK},
		{of(0, nil, nil), l(0), api.View{}, api.ErrShape},
		{of(0, l(2, 3), l(3, 1)), nil, api.View{}, api.ErrShape},
		{of(0, l(2, 3), l(3, 1)), l(1), api.View{}, api.ErrShape},
		{of(0, l(2, 3), l(3, 1)), l(1, 1), api.View{}, api.ErrShape},
		{of(0, l(2, 3), l(3, 1)), l(0, 0), api.View{}, api.ErrShape},
		{of(0, l(2, 3), l(3, 1)), l(0, 2), api.View{}, api.ErrShape},
		{of(0, l(2, 3), l(3, 1)), l(-1, 0), api.View{}, api.ErrShape},
		{of(0, l(2, 3), l(3, 1)), l(0, 1, 2), api.View{}, api.ErrShape},
		{of(0, l(2, 3), l(3, 1)), l(0, 1, 0), api.View{}, api.ErrShape},
		{of(0, l(2, 3), l(3, 1)), l(most, least), api.View{}, api.ErrShape},
		{six, l(5, 0, 4, 1, 3, 6), api.View{}, api.ErrShape},
		{six, l(5, 0, 4, 1, 3, 5), api.View{}, api.ErrShape},
		{six, l(0, 1, 2, 3, 4, 5, 6), api.View{}, api.ErrShape},
	} {
		v, err := view.Turn(c.v, c.perm)
		wantView(t, fmt.Sprint("Turn", c.v, c.perm), v, err, c.want, c.err)
	}
}

// The entry of the turned view lies where v's entry lies whose number perm[k] is the k-th one.
func TestV4TurnReads(t *testing.T) {
	v := of(3, l(2, 3, 4), l(-5, 2, 40))
	for _, perm := range lists(3, 0, 1, 2) {
		w, err := view.Turn(v, perm)
		if err != api.OK {
			continue
		}
		for _, at := range indices(w.Dims) {
			from := make([]int, 3)
			for k, p := range perm {
				from[p] = at[k]
			}
			if lies(w, at) != lies(v, from) {
				t.Errorf("Turn %v: entry %v is not that at %v", perm, at, from)
			}
		}
	}
}

func TestV4Flip(t *testing.T) {
	for _, c := range []struct {
		v    api.View
		at   []int
		want api.View
		err  api.Errno
	}{
		{of(4, nil, nil), nil, of(4, nil, nil), api.OK},
		{of(0, l(2, 3), l(3, 1)), nil, of(0, l(2, 3), l(3, 1)), api.OK},
		{of(0, l(2, 3), l(3, 1)), l(0), of(3, l(2, 3), l(-3, 1)), api.OK},
		{of(0, l(2, 3), l(3, 1)), l(1), of(2, l(2, 3), l(3, -1)), api.OK},
		{of(0, l(2, 3), l(3, 1)), l(0, 1), of(5, l(2, 3), l(-3, -1)), api.OK},
		{of(5, l(2, 3), l(-3, -1)), l(0, 1), of(0, l(2, 3), l(3, 1)), api.OK},
		{of(5, l(1), l(7)), l(0), of(5, l(1), l(-7)), api.OK},
		{of(5, l(4), l(0)), l(0), of(5, l(4), l(0)), api.OK},
		{of(5, l(0), l(7)), l(0), of(5, l(0), l(-7)), api.OK},
		{of(5, l(0, 3), l(7, 2)), l(0), of(5, l(0, 3), l(-7, 2)), api.OK},
		{of(5, l(0, 3), l(7, 2)), l(0, 1), of(9, l(0, 3), l(-7, -2)), api.OK},
		{of(0, l(4096), l(1)), l(0), of(4095, l(4096), l(-1)), api.OK},
		{of(1, ones(6), l(1, 2, 3, 4, 5, 6)), l(1, 3, 5), of(1, ones(6), l(1, -2, 3, -4, 5, -6)), api.OK},
		{of(0, nil, nil), l(0), api.View{}, api.ErrShape},
		{of(0, l(2, 3), l(3, 1)), l(1, 0), api.View{}, api.ErrShape},
		{of(0, l(2, 3), l(3, 1)), l(0, 0), api.View{}, api.ErrShape},
		{of(0, l(2, 3), l(3, 1)), l(1, 1), api.View{}, api.ErrShape},
		{of(0, l(2, 3), l(3, 1)), l(2), api.View{}, api.ErrShape},
		{of(0, l(2, 3), l(3, 1)), l(-1), api.View{}, api.ErrShape},
		{of(0, l(2, 3), l(3, 1)), l(0, 1, 2), api.View{}, api.ErrShape},
		{of(0, l(2, 3), l(3, 1)), l(most), api.View{}, api.ErrShape},
		{of(0, l(2, 3), l(3, 1)), l(least, 0), api.View{}, api.ErrShape},
	} {
		v, err := view.Flip(c.v, c.at)
		wantView(t, fmt.Sprint("Flip", c.v, c.at), v, err, c.want, c.err)
	}
}

func TestV4FlipReads(t *testing.T) {
	v := of(3, l(2, 3, 4), l(-5, 2, 40))
	for _, flipped := range [][]int{l(), l(0), l(1), l(2), l(0, 1), l(0, 2), l(1, 2), l(0, 1, 2)} {
		w, _ := view.Flip(v, flipped)
		for _, at := range indices(v.Dims) {
			from := slices.Clone(at)
			for _, k := range flipped {
				from[k] = v.Dims[k] - 1 - at[k]
			}
			if lies(w, at) != lies(v, from) {
				t.Errorf("Flip %v: entry %v is not that at %v", flipped, at, from)
			}
		}
	}
}

func TestV4Cut(t *testing.T) {
	two := of(10, l(2, 3), l(3, 1))
	for _, c := range []struct {
		v            api.View
		lo, hi, step []int
		want         api.View
		err          api.Errno
	}{
		{of(4, nil, nil), nil, nil, nil, of(4, nil, nil), api.OK},
		{two, l(0, 0), l(2, 3), l(1, 1), two, api.OK},
		{two, l(0, 1), l(2, 3), l(2, 1), of(11, l(1, 2), l(6, 1)), api.OK},
		{two, l(1, 0), l(2, 3), l(1, 2), of(13, l(1, 2), l(3, 2)), api.OK},
		{two, l(1, 2), l(1, 2), l(1, 1), of(15, l(0, 0), l(3, 1)), api.OK},
		{two, l(2, 3), l(2, 3), l(4096, 4096), of(19, l(0, 0), l(12288, 4096)), api.OK},
		{two, l(0, 0), l(2, 3), l(4096, 3), of(10, l(1, 1), l(12288, 3)), api.OK},
		{of(0, l(10), l(1)), l(1), l(10), l(3), of(1, l(3), l(3)), api.OK},
		{of(0, l(10), l(1)), l(0), l(10), l(3), of(0, l(4), l(3)), api.OK},
		{of(0, l(10), l(1)), l(1), l(8), l(3), of(1, l(3), l(3)), api.OK},
		{of(0, l(10), l(1)), l(1), l(7), l(3), of(1, l(2), l(3)), api.OK},
		{of(0, l(10), l(-4)), l(2), l(9), l(5), of(-8, l(2), l(-20)), api.OK},
		{of(0, l(4096), l(1)), l(4095), l(4096), l(4096), of(4095, l(1), l(4096)), api.OK},
		{of(0, l(4096), l(1)), l(0), l(4096), l(4095), of(0, l(2), l(4095)), api.OK},
		{of(6, l(0), l(9)), l(0), l(0), l(2), of(6, l(0), l(18)), api.OK},
		{two, nil, l(2, 3), l(1, 1), api.View{}, api.ErrShape},
		{two, l(0, 0), l(2), l(1, 1), api.View{}, api.ErrShape},
		{two, l(0, 0), l(2, 3), l(1, 1, 1), api.View{}, api.ErrShape},
		{of(0, nil, nil), nil, nil, l(1), api.View{}, api.ErrShape},
		{two, l(-1, 0), l(2, 3), l(1, 1), api.View{}, api.ErrRange},
		{two, l(0, 0), l(2, 4), l(1, 1), api.View{}, api.ErrRange},
		{two, l(0, 2), l(2, 1), l(1, 1), api.View{}, api.ErrRange},
		{two, l(3, 0), l(3, 3), l(1, 1), api.View{}, api.ErrRange},
		{two, l(0, 0), l(2, 3), l(0, 1), api.View{}, api.ErrRange},
		{two, l(0, 0), l(2, 3), l(1, -1), api.View{}, api.ErrRange},
		{two, l(0, 0), l(2, 3), l(1, 4097), api.View{}, api.ErrRange},
		{two, l(0, 1), l(2, 1), l(1, 0), api.View{}, api.ErrRange},
		{two, l(least, 0), l(2, 3), l(1, 1), api.View{}, api.ErrRange},
		{two, l(0, 0), l(most, 3), l(1, 1), api.View{}, api.ErrRange},
		{two, l(0, 0), l(2, 3), l(most, 1), api.View{}, api.ErrRange},
		{of(0, l(0), l(1)), l(0), l(1), l(1), api.View{}, api.ErrRange},
		{of(0, l(0), l(1)), l(0), l(0), l(0), api.View{}, api.ErrRange},
		// Several errors: the lists, then their numbers, then how far it goes.
		{two, l(-1, 0), l(2), l(0, 0), api.View{}, api.ErrShape},
		{of(0, l(4, 2), l(reach, 1)), l(0, 0), l(4, 3), l(2, 1), api.View{}, api.ErrRange},
	} {
		v, err := view.Cut(c.v, c.lo, c.hi, c.step)
		wantView(t, fmt.Sprint("Cut", c.v, c.lo, c.hi, c.step), v, err, c.want, c.err)
	}
}

func TestV4CutReads(t *testing.T) {
	for dim := range 8 {
		v := of(100, l(dim), l(-3))
		for lo := range dim + 1 {
			for hi := lo; hi <= dim; hi++ {
				for step := 1; step <= 9; step++ {
					var want []int
					for i := lo; i < hi; i += step {
						want = append(want, 100-3*i)
					}
					w, err := view.Cut(v, l(lo), l(hi), l(step))
					wantList(t, fmt.Sprint("Cut", dim, lo, hi, step), reads(w), err, want, api.OK)
				}
			}
		}
	}
}

func TestV4Spread(t *testing.T) {
	two := of(10, l(2, 3), l(3, 1))
	for _, c := range []struct {
		v        api.View
		dims, at []int
		want     api.View
		err      api.Errno
	}{
		{of(4, nil, nil), nil, nil, of(4, nil, nil), api.OK},
		{of(4, nil, nil), l(2, 3), nil, of(4, l(2, 3), l(0, 0)), api.OK},
		{of(4, nil, nil), l(4096, 16), nil, of(4, l(4096, 16), l(0, 0)), api.OK},
		{two, l(2, 3), l(0, 1), two, api.OK},
		{two, l(2, 5, 3), l(0, 2), of(10, l(2, 5, 3), l(3, 0, 1)), api.OK},
		{two, l(7, 2, 3), l(1, 2), of(10, l(7, 2, 3), l(0, 3, 1)), api.OK},
		{two, l(2, 3, 0), l(0, 1), of(10, l(2, 3, 0), l(3, 1, 0)), api.OK},
		{two, l(2, 2, 3, 3), l(0, 2), of(10, l(2, 2, 3, 3), l(3, 0, 1, 0)), api.OK},
		{two, l(2, 2, 3, 3), l(1, 3), of(10, l(2, 2, 3, 3), l(0, 3, 0, 1)), api.OK},
		{two, l(1, 2, 1, 1, 3, 1), l(1, 4), of(10, l(1, 2, 1, 1, 3, 1), l(0, 3, 0, 0, 1, 0)), api.OK},
		{of(0, l(0, 4), l(5, 6)), l(0, 9, 4), l(0, 2), of(0, l(0, 9, 4), l(5, 0, 6)), api.OK},
		{of(-reach, l(1), l(reach)), l(1), l(0), of(-reach, l(1), l(reach)), api.OK},
		{two, l(2, 5, 3), nil, api.View{}, api.ErrShape},
		{two, l(2, 5, 3), l(0), api.View{}, api.ErrShape},
		{two, l(2, 5, 3), l(0, 1, 2), api.View{}, api.ErrShape},
		{of(4, nil, nil), l(2), l(0), api.View{}, api.ErrShape},
		{two, l(2, 5, 3), l(0, 1), api.View{}, api.ErrShape},
		{two, l(3, 2), l(1, 0), api.View{}, api.ErrShape},
		{two, l(2, 5, 3), l(2, 0), api.View{}, api.ErrShape},
		{of(0, l(2, 2), l(2, 1)), l(2, 2), l(0, 0), api.View{}, api.ErrShape},
		{two, l(2, 5, 3), l(0, 3), api.View{}, api.ErrShape},
		{two, l(2, 5, 3), l(-1, 2), api.View{}, api.ErrShape},
		{two, l(2, 5, 3), l(0, most), api.View{}, api.ErrShape},
		{two, l(2, 5, 3), l(least, 2), api.View{}, api.ErrShape},
		{two, l(2, 5, 4), l(0, 2), api.View{}, api.ErrShape},
		{of(0, l(1, 3), l(3, 1)), l(2, 3), l(0, 1), api.View{}, api.ErrShape},
		{two, nil, nil, api.View{}, api.ErrShape},
		// Several errors: what Size says, then the shape.
		{two, l(4096, 17), l(9), api.View{}, api.ErrMuch},
		{two, l(-1, 3), l(0, 1), api.View{}, api.ErrRange},
		{two, ones(7), nil, api.View{}, api.ErrRank},
	} {
		v, err := view.Spread(c.v, c.dims, c.at)
		wantView(t, fmt.Sprint("Spread", c.v, c.dims, c.at), v, err, c.want, c.err)
	}
}

func TestV4SpreadReads(t *testing.T) {
	v := of(3, l(2, 3), l(-5, 2))
	w, _ := view.Spread(v, l(4, 2, 2, 3), l(2, 3))
	for _, at := range indices(w.Dims) {
		if lies(w, at) != lies(v, at[2:]) {
			t.Errorf("entry %v lies at %d", at, lies(w, at))
		}
	}
}

func TestV6(t *testing.T) {
	much := func(what string, v api.View, err api.Errno) {
		t.Helper()
		wantView(t, what, v, err, api.View{}, api.ErrMuch)
	}
	v, err := view.Flip(of(reach, l(2), l(1)), l(0))
	much("Flip ahead", v, err)
	v, err = view.Flip(of(-reach, l(2), l(-1)), l(0))
	much("Flip behind", v, err)
	v, err = view.Flip(of(0, l(4096), l(reach)), l(0))
	much("Flip far", v, err)
	v, err = view.Flip(of(reach, slices.Repeat(l(4), 6), slices.Repeat(l(reach), 6)), l(0, 1, 2, 3, 4, 5))
	much("Flip all", v, err)
	v, err = view.Flip(of(0, l(0, 3), l(1, reach)), l(1))
	much("Flip without entries", v, err)
	v, err = view.Cut(of(reach, l(2), l(1)), l(1), l(2), l(1))
	much("Cut's Start", v, err)
	v, err = view.Cut(of(-reach, l(2), l(-1)), l(2), l(2), l(1))
	much("Cut's Start without entries", v, err)
	v, err = view.Cut(of(0, l(4), l(reach)), l(0), l(4), l(2))
	much("Cut's step", v, err)
	v, err = view.Cut(of(0, l(1), l(-reach)), l(0), l(1), l(4096))
	much("Cut's step of one", v, err)
	v, err = view.Cut(of(0, l(0), l(reach/2+1)), l(0), l(0), l(2))
	much("Cut's step of none", v, err)
	v, err = view.Reform(of(0, l(4), l(reach)), l(2, 2))
	much("Reform", v, err)
	v, err = view.Reform(of(0, l(4096), l(-reach)), l(2, 2048))
	much("Reform far", v, err)
	v, err = view.Reform(of(reach, l(2, 8), l(reach, reach/8)), l(2, 2, 4))
	wantView(t, "Reform at the reach", v, err, of(reach, l(2, 2, 4), l(reach, reach/2, reach/8)), api.OK)
}

// Just as far as it may be, nothing is too much; what counts is the outcome alone.
func TestV6AtTheReach(t *testing.T) {
	v, err := view.Flip(of(reach-3, l(4), l(1)), l(0))
	wantView(t, "Flip ahead", v, err, of(reach, l(4), l(-1)), api.OK)
	v, err = view.Flip(of(-reach+3, l(4), l(-1)), l(0))
	wantView(t, "Flip behind", v, err, of(-reach, l(4), l(1)), api.OK)
	v, err = view.Flip(of(reach, l(2, 2), l(reach, -reach)), l(0, 1))
	wantView(t, "Flip there and back", v, err, of(reach, l(2, 2), l(-reach, reach)), api.OK)
	v, err = view.Flip(of(reach, l(0), l(reach)), l(0))
	wantView(t, "Flip none", v, err, of(reach, l(0), l(-reach)), api.OK)
	v, err = view.Cut(of(-reach, l(4), l(reach/4)), l(0), l(4), l(4))
	wantView(t, "Cut's step", v, err, of(-reach, l(1), l(reach)), api.OK)
	v, err = view.Cut(of(reach, l(3, 3), l(reach, -reach)), l(2, 2), l(3, 3), l(1, 1))
	wantView(t, "Cut's Start", v, err, of(reach, l(1, 1), l(reach, -reach)), api.OK)
	v, err = view.Reform(of(0, l(4), l(reach/2)), l(2, 2))
	wantView(t, "Reform", v, err, of(0, l(2, 2), l(reach, reach/2)), api.OK)
}
