package nest

import (
	"adjoint/api"
	"adjoint/points"
	"adjoint/row"
)

// most is how many numbers a statement gets at the most.
const most = 3

// memory are the numbers of each array.
type memory [][]int64

// wrongStmt is what is wrong with a statement over so many arrays.
func wrongStmt(s api.Stmt, arrays int) api.Errno {
	if err := points.Wrong(s.Over); err != api.OK {
		return err
	}
	many, ok := gets(s.Do)
	if !ok {
		return api.ErrKind
	}
	if len(s.Get) != many {
		return api.ErrMany
	}
	if err := wrongAccess(s.Put, arrays, len(s.Over.Box)); err != api.OK {
		return err
	}
	for _, a := range s.Get {
		if err := wrongAccess(a, arrays, len(s.Over.Box)); err != api.OK {
			return err
		}
	}
	return api.OK
}

// wrongAccess is what is wrong with an access to one of so many arrays, at points of so many numbers.
func wrongAccess(a api.Access, arrays, numbers int) api.Errno {
	if a.Array < 0 || a.Array >= arrays {
		return api.ErrRange
	}
	return row.Wrong(a.At, numbers)
}

// gets is how many numbers a kind of statement gets; false: there is no such kind.
func gets(do int) (int, bool) {
	switch do {
	case api.DoSet:
		return 0, true
	case api.DoCopy, api.DoMore:
		return 1, true
	case api.DoAdd, api.DoSub, api.DoMul, api.DoMax, api.DoLess, api.DoMac:
		return 2, true
	case api.DoPick:
		return most, true
	}
	return 0, false
}

// do does a statement at a point.
func (m memory) do(s api.Stmt, x []int) {
	var got [most]int64
	for k, a := range s.Get {
		got[k] = *m.at(a, x)
	}
	to := m.at(s.Put, x)
	*to = puts(s, got, *to)
}

// at is the number to which an access leads at a point. Outside its array that is a nought of its own: so 0 is got there, and what is put is lost.
func (m memory) at(a api.Access, x []int) *int64 {
	numbers, place := m[a.Array], row.Number(a.At, x)
	if place < 0 || place >= len(numbers) {
		return new(int64)
	}
	return &numbers[place]
}

// puts is what a statement puts, of the numbers that it got and of what is there.
func puts(s api.Stmt, got [most]int64, there int64) int64 {
	a, b, c := got[0], got[1], got[2]
	switch s.Do {
	case api.DoSet:
		return s.Value
	case api.DoAdd:
		return a + b
	case api.DoSub:
		return a - b
	case api.DoMul:
		return a * b
	case api.DoMax:
		return max(a, b)
	case api.DoLess:
		return one(a < b)
	case api.DoPick:
		if a == 0 {
			return c
		}
		return b
	case api.DoMore:
		return there + a
	case api.DoMac:
		return there + a*b
	}
	return a
}

// one is 1 if something holds, else 0.
func one(holds bool) int64 {
	if holds {
		return 1
	}
	return 0
}
