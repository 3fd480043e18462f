package sight_test

import (
	"slices"
	"testing"

	"adjoint/api"
	"adjoint/sight"
)

func l(numbers ...int) []int { return numbers }

// same tells whether two views are alike.
func same(a, b api.View) bool {
	return a.Start == b.Start && slices.Equal(a.Dims, b.Dims) && slices.Equal(a.Steps, b.Steps)
}

func TestRead(t *testing.T) {
	for _, c := range []struct {
		op   api.Op
		want api.View
		err  api.Errno
	}{
		{api.Op{Kind: api.Spread, Dims: l(2, 4, 3), At: l(0, 2)}, api.View{Dims: l(2, 4, 3), Steps: l(3, 0, 1)}, api.OK},
		{api.Op{Kind: api.Turn, At: l(1, 0)}, api.View{Dims: l(3, 2), Steps: l(1, 3)}, api.OK},
		{api.Op{Kind: api.Cut, Lo: l(1, 0), Hi: l(2, 3), Step: l(1, 2)}, api.View{Start: 3, Dims: l(1, 2), Steps: l(3, 2)}, api.OK},
		{api.Op{Kind: api.Flip, At: l(1)}, api.View{Start: 2, Dims: l(2, 3), Steps: l(3, -1)}, api.OK},
		{api.Op{Kind: api.Spread, Dims: l(2, 4), At: l(0, 1)}, api.View{}, api.ErrShape},
		{api.Op{Kind: api.Turn, At: l(1, 1)}, api.View{}, api.ErrShape},
		{api.Op{Kind: api.Cut, Lo: l(1, 0), Hi: l(2, 4), Step: l(1, 2)}, api.View{}, api.ErrRange},
		{api.Op{Kind: api.Flip, At: l(2)}, api.View{}, api.ErrShape},
	} {
		if got, err := sight.Read(c.op, l(2, 3)); !same(got, c.want) || err != c.err {
			t.Errorf("%v: %v, %d comes, not %v, %d", c.op, got, err, c.want, c.err)
		}
	}
}

func TestLanding(t *testing.T) {
	for _, c := range []struct {
		op         api.Op
		from, made []int
		want       api.View
	}{
		{api.Op{Kind: api.Sum, At: l(1)}, l(2, 3, 4), l(2, 4), api.View{Dims: l(2, 3, 4), Steps: l(4, 0, 1)}},
		{api.Op{Kind: api.Sum, At: l(0)}, l(0, 3), l(3), api.View{Dims: l(0, 3), Steps: l(0, 1)}},
		{api.Op{Kind: api.Sum}, l(2), l(2), api.View{Dims: l(2), Steps: l(1)}},
		{api.Op{Kind: api.Pad, Lo: l(1, 2), Hi: l(0, 3), Step: l(2, 1)}, l(2, 3), l(4, 8), api.View{Start: 10, Dims: l(2, 3), Steps: l(16, 1)}},
		{api.Op{Kind: api.Pad, Lo: l(3), Hi: l(2), Step: l(7)}, l(0), l(5), api.View{Start: 3, Dims: l(0), Steps: l(7)}},
	} {
		if got := sight.Landing(c.op, c.from, c.made); !same(got, c.want) {
			t.Errorf("%v: %v comes, not %v", c.op, got, c.want)
		}
	}
}
