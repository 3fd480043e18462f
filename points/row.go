package points

import (
	"slices"

	"adjoint/api"
)

// wrongRow is what is wrong with a row over so many numbers.
func wrongRow(r api.Row, many int) api.Errno {
	if len(r.Coef) != many {
		return api.ErrShape
	}
	far := func(n int) bool { return n < -api.MaxCoef || n > api.MaxCoef }
	if far(r.Const) || slices.ContainsFunc(r.Coef, far) {
		return api.ErrRange
	}
	return api.OK
}

// worth is a row's number.
func worth(r api.Row, x []int) int {
	sum := r.Const
	for k, coef := range r.Coef {
		sum += coef * x[k]
	}
	return sum
}

// above tells whether no row's number is below 0.
func above(rows []api.Row, x []int) bool {
	return !slices.ContainsFunc(rows, func(r api.Row) bool { return worth(r, x) < 0 })
}
