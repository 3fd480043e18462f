package ring_test

import (
	"testing"

	"adjoint/api"
	"adjoint/ring"
)

// T2: each kind, and none of them.
func TestT2Kinds(t *testing.T) {
	for _, do := range kinds() {
		for _, many := range []int{1, 2, 3, crowd} {
			for me := range many {
				member(t, do, many, me)
				member(t, do, many, me, make([]int64, many)...)
			}
		}
	}
	for _, do := range []int{0, 5, 6, -1, -4, 1 << 32, 1<<32 + 1, most, least} {
		wantNoMember(t, do, 1, 0, nil, api.ErrKind)
		wantNoMember(t, do, 3, 1, w(1, 2, 3), api.ErrKind)
	}
}

// T2: many and me at both ends, and beyond them.
func TestT2Range(t *testing.T) {
	for _, do := range kinds() {
		for _, x := range []struct{ many, me int }{
			{0, 0}, {0, -1}, {-1, 0}, {-1, -2}, {crowd + 1, 0}, {crowd + 1, crowd}, {most, 0}, {least, 0}, {most, most - 1}, {least, least},
			{1, 1}, {1, -1}, {2, 2}, {3, 3}, {3, 4}, {3, -1}, {3, most}, {3, least}, {crowd, crowd}, {crowd, -1}, {crowd, most},
		} {
			wantNoMember(t, do, x.many, x.me, nil, api.ErrRange)
			wantNoMember(t, do, x.many, x.me, make([]int64, 48), api.ErrRange)
		}
	}
}

// T2: as many words as there may be, and one more.
func TestT2Much(t *testing.T) {
	for _, do := range kinds() {
		for _, many := range []int{1, 2, 16} {
			for _, me := range []int{0, many - 1} {
				member(t, do, many, me, make([]int64, full)...)
				wantNoMember(t, do, many, me, make([]int64, full+1), api.ErrMuch)
				wantNoMember(t, do, many, me, make([]int64, full+16), api.ErrMuch)
			}
		}
		if do != api.AllSwap {
			member(t, do, 3, 1, make([]int64, full)...)
		}
	}
}

// T2: words that a team divides, and does not.
func TestT2Shape(t *testing.T) {
	for many := 1; many <= crowd; many++ {
		for words := range 40 {
			for _, do := range kinds() {
				if do != api.AllSwap || words%many == 0 {
					member(t, do, many, many/2, make([]int64, words)...)
				} else {
					wantNoMember(t, do, many, many/2, make([]int64, words), api.ErrShape)
				}
			}
		}
	}
	wantNoMember(t, api.AllSwap, 3, 0, make([]int64, full), api.ErrShape)
	member(t, api.AllSwap, 3, 0, make([]int64, full-1)...)
}

// newByHand is what is wrong with a member's beginning, by the words of T2.
func newByHand(do, many, me, words int) api.Errno {
	switch {
	case do != 1 && do != 2 && do != 3 && do != 4:
		return api.ErrKind
	case !(1 <= many && many <= 16):
		return api.ErrRange
	case !(0 <= me && me <= many-1):
		return api.ErrRange
	case words > 65536:
		return api.ErrMuch
	case do == 4 && words != words/many*many:
		return api.ErrShape
	}
	return api.OK
}

// T2: which error comes first, in all pairings.
func TestT2First(t *testing.T) {
	told := map[api.Errno]int{}
	for _, do := range []int{least, -1, 0, 1, 2, 3, 4, 5, most} {
		for _, many := range []int{least, -1, 0, 1, 2, 3, 16, 17, most} {
			for _, me := range []int{least, -1, 0, 1, 2, 15, 16, 17, most} {
				for _, words := range []int{0, 1, 2, 3, 7, 48, 65535, 65536, 65537, 65538} {
					err := newByHand(do, many, me, words)
					told[err]++
					given := make([]int64, words)
					if err != api.OK {
						wantNoMember(t, do, many, me, given, err)
					} else if m, got := ring.New(do, many, me, given); m == nil || got != api.OK {
						t.Errorf("New of kind %d, member %d of %d, %d words: %d comes", do, me, many, words, got)
					}
				}
			}
		}
	}
	for _, err := range []api.Errno{api.OK, api.ErrKind, api.ErrRange, api.ErrMuch, api.ErrShape} {
		if told[err] == 0 {
			t.Errorf("just these came: %v", told)
		}
	}
}
