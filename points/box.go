package points

import (
	"iter"
	"slices"

	"adjoint/api"
	"adjoint/list"
	"adjoint/row"
	"adjoint/view"
)

// wrongBox is what is wrong with a box.
func wrongBox(box []int) api.Errno {
	if len(box) > api.MaxVars {
		return api.ErrRank
	}
	if slices.ContainsFunc(box, func(end int) bool { return end < 0 || end > api.MaxVisit }) {
		return api.ErrRange
	}
	size := 1
	for _, end := range box {
		size *= end
	}
	if size > api.MaxVisit {
		return api.ErrMuch
	}
	return api.OK
}

// through goes through the points, in order, each a list of its own; nothing must be wrong with p.
func through(p api.Points) iter.Seq[[]int] {
	return func(yield func([]int) bool) {
		if yield == nil {
			return
		}
		// A box is within what dimensions may be, and its lists have the order of indices.
		size, _ := view.Size(p.Box)
		for place := range size {
			x, _ := view.Index(p.Box, place)
			if above(p.Rows, x) && !yield(x) {
				return
			}
		}
	}
}

// fresh is a description of points in memory of its own.
func fresh(p api.Points) api.Points {
	return api.Points{Box: list.Fresh(p.Box), Rows: list.Each(p.Rows, row.Fresh)}
}

// above tells whether no row's number is below 0.
func above(rows []api.Row, x []int) bool {
	return !slices.ContainsFunc(rows, func(r api.Row) bool { return row.Number(r, x) < 0 })
}
