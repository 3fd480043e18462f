package room

import (
	"cmp"
	"slices"

	"adjoint/api"
)

// tree tells of each node which ones stand just below it, and its words.
type tree struct {
	below [][]int
	words []int
}

// treeOf is the tree in which each node stands below that one; or what is wrong with it.
func treeOf(above, words []int) (tree, api.Errno) {
	many := len(above)
	if len(words) != many || many > api.MaxLives {
		return tree{}, api.ErrMany
	}
	t := tree{below: make([][]int, many), words: words}
	for k, up := range above {
		last := k == many-1
		if last && up != -1 || !last && (up <= k || up >= many) {
			return tree{}, api.ErrForm
		}
		if !wordsFit(words[k]) {
			return tree{}, api.ErrRange
		}
		if !last {
			t.below[up] = append(t.below[up], k)
		}
	}
	return t, api.OK
}

// peak is the most that is needed at one time, if the nodes are made in an order; or that it is none.
func (t tree) peak(order []int) (int, api.Errno) {
	if len(order) != len(t.words) {
		return 0, api.ErrOrder
	}
	made := make([]bool, len(t.words))
	missing := func(k int) bool { return !made[k] }
	needed, most := 0, 0
	for _, k := range order {
		if k < 0 || k >= len(made) || made[k] || slices.ContainsFunc(t.below[k], missing) {
			return 0, api.ErrOrder
		}
		made[k] = true
		needed += t.words[k]
		most = max(most, needed)
		for _, b := range t.below[k] {
			needed -= t.words[b]
		}
	}
	return most, api.OK
}

// sort lays those below each node into the order in which their trees are made.
func (t tree) sort() {
	beyond := make([]int, len(t.words))
	for k, below := range t.below {
		// They stand ahead of it, so what is needed for them is known; and they come by their numbers, which are kept where it is as much.
		slices.SortStableFunc(below, func(a, b int) int { return cmp.Compare(beyond[b], beyond[a]) })
		held, most := 0, 0
		for _, b := range below {
			held += t.words[b]
			most = max(most, held+beyond[b])
		}
		beyond[k] = max(most, held+t.words[k]) - t.words[k]
	}
}

// order are all nodes, from the last one on each behind the trees below it.
func (t tree) order() []int {
	out := make([]int, 0, len(t.below))
	var climb func(k int)
	climb = func(k int) {
		for _, b := range t.below[k] {
			climb(b)
		}
		out = append(out, k)
	}
	if len(t.below) > 0 {
		climb(len(t.below) - 1)
	}
	return out
}
