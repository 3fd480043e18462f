package order

import (
	"slices"

	"adjoint/api"
	"adjoint/list"
	"adjoint/row"
)

// asItStands are rows that tell the number of a statement, and then the numbers of its points.
func asItStands(stmt, numbers int) []api.Row {
	out := []api.Row{{Coef: make([]int, numbers), Const: stmt}}
	for k := range numbers {
		coef := make([]int, numbers)
		coef[k] = 1
		out = append(out, api.Row{Coef: coef})
	}
	return out
}

// fresh is a statement in memory of its own.
func fresh(s api.Stmt) api.Stmt { return remade(s, list.Fresh[int], row.Fresh) }

// remade is a statement with another box, and with other rows.
func remade(s api.Stmt, box func([]int) []int, of func(api.Row) api.Row) api.Stmt {
	access := func(a api.Access) api.Access { return api.Access{Array: a.Array, At: of(a.At)} }
	s.Over = api.Points{Box: box(s.Over.Box), Rows: list.Each(s.Over.Rows, of)}
	s.Put, s.Get = access(s.Put), list.Each(s.Get, access)
	return s
}

// stripped is a statement whose points have, in the place of number k, how many strips are ahead and where in the strip.
func stripped(s api.Stmt, k, size int) api.Stmt {
	end := s.Over.Box[k]
	twice := func(box []int) []int { return instead(box, k, (end+size-1)/size, size) }
	of := func(r api.Row) api.Row {
		return api.Row{Coef: instead(r.Coef, k, size*r.Coef[k], r.Coef[k]), Const: r.Const}
	}
	out := remade(s, twice, of)
	// The last strip may not be full: without this row there would be points behind the old end.
	last := api.Row{Coef: make([]int, len(out.Over.Box)), Const: end - 1}
	last.Coef[k], last.Coef[k+1] = -size, -1
	out.Over.Rows = append(out.Over.Rows, last)
	return out
}

// instead is a list that has two numbers in the place of number k.
func instead(numbers []int, k, first, second int) []int {
	return slices.Concat(numbers[:k], []int{first, second}, numbers[k+1:])
}
