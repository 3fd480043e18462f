package row_test

import (
	"math"
	"slices"
	"testing"

	"adjoint/api"
	"adjoint/row"
)

func TestWrong(t *testing.T) {
	for _, c := range []struct {
		row  api.Row
		many int
		want api.Errno
	}{
		{api.Row{}, 0, api.OK}, {api.Row{Coef: []int{}}, 0, api.OK}, {api.Row{Coef: []int{1, 2}, Const: 3}, 2, api.OK},
		{api.Row{}, 1, api.ErrShape}, {api.Row{Coef: []int{0}}, 0, api.ErrShape}, {api.Row{Coef: []int{1, 2}}, 3, api.ErrShape},
		{api.Row{Coef: []int{1 << 20, -1 << 20}, Const: 1 << 20}, 2, api.OK}, {api.Row{Const: -1 << 20}, 0, api.OK},
		{api.Row{Coef: []int{0, 1<<20 + 1}}, 2, api.ErrRange}, {api.Row{Coef: []int{-1<<20 - 1, 0}}, 2, api.ErrRange}, {api.Row{Const: 1<<20 + 1}, 0, api.ErrRange}, {api.Row{Const: -1<<20 - 1}, 0, api.ErrRange},
		{api.Row{Coef: []int{math.MinInt}}, 1, api.ErrRange}, {api.Row{Coef: []int{math.MaxInt}}, 2, api.ErrShape},
	} {
		if got := row.Wrong(c.row, c.many); got != c.want {
			t.Errorf("%v over %d numbers: %d comes, not %d", c.row, c.many, got, c.want)
		}
	}
}

func TestNumber(t *testing.T) {
	for _, c := range []struct {
		row  api.Row
		x    []int
		want int
	}{
		{api.Row{}, nil, 0}, {api.Row{Const: -7}, nil, -7}, {api.Row{Coef: []int{3}}, []int{5}, 15}, {api.Row{Coef: []int{3, -2}, Const: 1}, []int{5, 9}, -2},
		{api.Row{Coef: []int{1 << 20, 1 << 20}, Const: 1 << 20}, []int{4095, 0}, 1 << 32},
	} {
		if got := row.Number(c.row, c.x); got != c.want {
			t.Errorf("%v of %v: %d comes, not %d", c.row, c.x, got, c.want)
		}
	}
}

func TestFresh(t *testing.T) {
	r := api.Row{Coef: []int{1, 2}, Const: 3}
	got := row.Fresh(r)
	if !slices.Equal(got.Coef, r.Coef) || got.Const != 3 {
		t.Errorf("%v comes of %v", got, r)
	}
	got.Coef[0] = 9
	if r.Coef[0] != 1 {
		t.Error("it shares memory with what it is like")
	}
}
