package order

import "slices"

// inTurn are all spots, in the order in which they are done.
func inTurn(all []spot, mix []int) []spot {
	slices.SortStableFunc(all, byTime)
	pick := picker(mix)
	out := make([]spot, 0, len(all))
	for len(all) > 0 {
		many := atOnce(all)
		left := all[:many]
		for len(left) > 0 {
			k := pick(len(left))
			out = append(out, left[k])
			left = slices.Delete(left, k, k+1)
		}
		all = all[many:]
	}
	return out
}

// atOnce is how many spots have the time of the first one, in a list that is sorted by time.
func atOnce(all []spot) int {
	later := slices.IndexFunc(all, func(s spot) bool { return byTime(s, all[0]) != 0 })
	if later < 0 {
		return len(all)
	}
	return later
}

// picker tells, whenever it is asked, which one of so many is next: as mix says, from its first number on again and again.
func picker(mix []int) func(many int) int {
	asked := 0
	return func(many int) int {
		if len(mix) == 0 {
			return 0
		}
		number := mix[asked%len(mix)]
		asked++
		return (number%many + many) % many
	}
}
