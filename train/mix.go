package train

import "adjoint/list"

// How the numbers go on from which an order is taken.
const (
	byByte = 1099511628211
	byTurn = 6364136223846793005
	onTurn = 1442695040888963407
)

// seeded is the number that the bytes of a seed make.
func seeded(seed string) uint64 {
	s := uint64(0)
	for i := range len(seed) {
		s = byByte*s + uint64(seed[i]) + 1
	}
	return s
}

// mixed are the numbers of so many rows, in the order in which they have their turn in an epoch.
func mixed(seed uint64, rows, epoch int) []int {
	s := byByte*seed + uint64(epoch) + 1
	out := list.Others(rows)
	for i := rows - 1; i >= 1; i-- {
		s = byTurn*s + onTurn
		j := (s >> 33) % uint64(i+1)
		out[i], out[j] = out[j], out[i]
	}
	return out
}
