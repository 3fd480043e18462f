package array_test

import (
	"fmt"
	"math"
	"testing"

	"adjoint/api"
	"adjoint/array"
)

func TestA1Wrong(t *testing.T) {
	for _, c := range []struct {
		a    api.Array
		want api.Errno
	}{
		{one(5), api.OK},
		{of(l(3), 1, 2, 3), api.OK},
		{of(l(2, 2), 1, 2, 3, 4), api.OK},
		{of(l(0)), api.OK},
		{of(l(4096, 0, 4096)), api.OK},
		{of(l(4096, 4096, 4096, 4096, 4096, 0)), api.OK},
		{of(ones(6), 9), api.OK},
		{api.Array{Dims: l(4096, 16), Data: make([]int64, 65536)}, api.OK},
		{of(ones(7), 9), api.ErrRank},
		{of(l(-1)), api.ErrRange},
		{of(l(4097)), api.ErrRange},
		{api.Array{Dims: l(4096, 17), Data: make([]int64, 4096*17)}, api.ErrMuch},
		{of(nil), api.ErrShape},
		{of(nil, 1, 2), api.ErrShape},
		{of(l(3), 1, 2), api.ErrShape},
		{of(l(3), 1, 2, 3, 4), api.ErrShape},
		{of(l(3)), api.ErrShape},
		{of(l(0), 1), api.ErrShape},
		{of(l(2, 2), 1, 2), api.ErrShape},
		// Several errors: what Size says is told first.
		{of(l(4097), 1), api.ErrRange},
		{of(ones(7)), api.ErrRank},
		{of(l(4096, 17)), api.ErrMuch},
	} {
		if got := array.Wrong(c.a); got != c.want {
			t.Errorf("Wrong of %v with %d numbers: %d comes, not %d", c.a.Dims, len(c.a.Data), got, c.want)
		}
	}
}

func TestA6Inner(t *testing.T) {
	for _, c := range []struct {
		a, b api.Array
		want int64
		err  api.Errno
	}{
		{of(l(2, 2), 1, 2, 3, 4), of(l(2, 2), 5, 6, 7, 8), 70, api.OK},
		{of(l(3), 1, -2, 3), of(l(3), 4, 5, -6), -24, api.OK},
		{one(6), one(7), 42, api.OK},
		{of(l(0)), of(l(0)), 0, api.OK},
		{of(l(0, 3)), of(l(0, 3)), 0, api.OK},
		{one(1 << 32), one(1 << 32), 0, api.OK},
		{one(1 << 62), one(2), math.MinInt64, api.OK},
		{of(l(2), math.MaxInt64, 1), of(l(2), 1, 1), math.MinInt64, api.OK},
		{one(math.MinInt64), one(-1), math.MinInt64, api.OK},
		{of(l(4), 1, 2, 3, 4), of(l(2, 2), 1, 2, 3, 4), 0, api.ErrShape},
		{of(l(2, 3), 1, 2, 3, 4, 5, 6), of(l(3, 2), 1, 2, 3, 4, 5, 6), 0, api.ErrShape},
		{of(l(0, 3)), of(l(3, 0)), 0, api.ErrShape},
		{of(l(1), 5), one(5), 0, api.ErrShape},
		{of(l(2), 1, 2), of(l(3), 1, 2, 3), 0, api.ErrShape},
		// Several errors: a, then b, then both.
		{of(ones(7), 1), of(l(-1)), 0, api.ErrRank},
		{of(l(-1)), of(ones(7), 1), 0, api.ErrRange},
		{of(l(2), 1), of(l(-1)), 0, api.ErrShape},
		{of(l(2), 1, 2), of(l(-1)), 0, api.ErrRange},
		{of(l(2), 1, 2), of(l(4096, 17)), 0, api.ErrMuch},
		{of(l(2), 1, 2), of(l(2), 1), 0, api.ErrShape},
		{of(l(2), 1, 2), of(l(2), 1, 2, 3), 0, api.ErrShape},
		{of(l(2), 1), of(l(2), 1), 0, api.ErrShape},
	} {
		got, err := array.Inner(c.a, c.b)
		if what := fmt.Sprint(c.a, c.b); got != c.want || err != c.err {
			t.Errorf("Inner %s: %d, %d comes, not %d, %d", what, got, err, c.want, c.err)
		}
	}
}
