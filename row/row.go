// Package row: what several layers ask of a row (I1).
package row

import (
	"slices"

	"adjoint/api"
	"adjoint/list"
)

// Wrong is what is wrong with a row over so many numbers.
func Wrong(r api.Row, many int) api.Errno {
	if len(r.Coef) != many {
		return api.ErrShape
	}
	far := func(n int) bool { return n < -api.MaxCoef || n > api.MaxCoef }
	if far(r.Const) || slices.ContainsFunc(r.Coef, far) {
		return api.ErrRange
	}
	return api.OK
}

// Number is that of a row, which nothing is wrong with, over these numbers.
func Number(r api.Row, x []int) int {
	sum := r.Const
	for k, coef := range r.Coef {
		sum += coef * x[k]
	}
	return sum
}

// Fresh is a row in memory of its own.
func Fresh(r api.Row) api.Row { return api.Row{Coef: list.Fresh(r.Coef), Const: r.Const} }
