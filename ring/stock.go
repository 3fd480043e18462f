package ring

import "adjoint/list"

// stock is what a member sends, and what it has. Of all kinds but AllSwap these are one list, for what came is sent on.
type stock struct {
	sends [][]int64 // by numbers of pieces
	has   [][]int64 // by numbers of pieces, too; of AllSwap by whose they were
}

// cut is all pieces (T1) of a member's own words.
func cut(own []int64, many, _ int) stock {
	all := list.Pieces(own, many)
	return stock{all, all}
}

// whole is a member's own words as one piece, with its number; the others are those of the other members.
func whole(own []int64, many, me int) stock {
	all := make([][]int64, many)
	all[me] = own
	return stock{all, all}
}

// apart is all pieces of a member's own words, which are sent whatever comes ahead of that, and the one that it keeps.
func apart(own []int64, many, me int) stock {
	sends, has := list.Pieces(own, many), make([][]int64, many)
	has[me] = sends[me]
	return stock{sends, has}
}
