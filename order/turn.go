package order

import (
	"slices"

	"adjoint/list"
)

// inTurn are all spots, in the order in which they are done.
func inTurn(all []spot, mix []int) []spot {
	slices.SortStableFunc(all, byTime)
	pick := list.Picker(mix)
	out := make([]spot, 0, len(all))
	for len(all) > 0 {
		many := atOnce(all)
		left := all[:many]
		for len(left) > 0 {
			k := pick(len(left))
			out = append(out, left[k])
			left = slices.Delete(left, k, k+1)
		}
		all = all[many:]
	}
	return out
}

// atOnce is how many spots have the time of the first one, in a list that is sorted by time.
func atOnce(all []spot) int {
	later := slices.IndexFunc(all, func(s spot) bool { return byTime(s, all[0]) != 0 })
	if later < 0 {
		return len(all)
	}
	return later
}
