package room_test

import (
	"slices"
	"testing"

	"adjoint/api"
	"adjoint/room"
)

// M4: as many words as nodes, and as many nodes as there may be.
func TestM4HowMany(t *testing.T) {
	for many := range 4 {
		for words := range 6 {
			if words == many {
				wantPeak(t, chain(many), make([]int, words), upTo(many), 0)
				wantClimb(t, chain(many), make([]int, words), 0, upTo(many)...)
				continue
			}
			wantBadTree(t, chain(many), make([]int, words), api.ErrMany)
			// There are not as many, whatever they are.
			wantBadTree(t, slices.Repeat(l(-5), many), slices.Repeat(l(-1), words), api.ErrMany)
		}
	}
	wantClimb(t, chain(full), make([]int, full), 0, upTo(full)...)
	wantClimb(t, star(full), make([]int, full), 0, upTo(full)...)
	wantBadTree(t, chain(full), make([]int, full-1), api.ErrMany)
	wantBadTree(t, chain(full), make([]int, full+1), api.ErrMany)
	wantBadTree(t, chain(full+1), make([]int, full), api.ErrMany)
	wantBadTree(t, chain(full+1), make([]int, full+1), api.ErrMany)
	wantBadTree(t, make([]int, full+1), slices.Repeat(l(-1), full+1), api.ErrMany)
	wantBadTree(t, make([]int, 3*full), make([]int, 3*full), api.ErrMany)
}

// M4: an above that is none.
func TestM4Above(t *testing.T) {
	ones := func(many int) []int { return slices.Repeat(l(1), many) }
	// The last one has none above it.
	wantClimb(t, l(-1), l(1), 1, 0)
	for _, up := range l(0, 1, 2, -2, least, most) {
		wantBadTree(t, l(up), ones(1), api.ErrForm)
		wantBadTree(t, l(1, up), ones(2), api.ErrForm)
	}
	wantBadTree(t, l(2, 2, 2), ones(3), api.ErrForm)
	wantBadTree(t, l(2, 2, 3), ones(3), api.ErrForm)
	// Another one has one behind it: no node, itself, one ahead of it are none.
	wantClimb(t, l(1, 2, -1), ones(3), 2, 0, 1, 2)
	wantClimb(t, l(2, 2, -1), ones(3), 3, 0, 1, 2)
	for _, up := range l(0, 3, 4, -1, -2, least, most) {
		wantBadTree(t, l(up, 2, -1), ones(3), api.ErrForm)
	}
	for _, up := range l(0, 1, 3, 4, -1, -2, least, most) {
		wantBadTree(t, l(1, up, -1), ones(3), api.ErrForm)
		wantBadTree(t, l(2, up, -1), ones(3), api.ErrForm)
	}
	last := chain(full)
	last[full-2] = full - 2
	wantBadTree(t, last, make([]int, full), api.ErrForm)
}

// M4: words at and beyond both ends.
func TestM4Words(t *testing.T) {
	wantClimb(t, l(-1), l(0), 0, 0)
	wantClimb(t, l(-1), l(all), all, 0)
	wantClimb(t, l(2, 2, -1), l(all, all, all), 3*all, 0, 1, 2)
	wantClimb(t, star(full), slices.Repeat(l(all), full), full*all, upTo(full)...)
	for _, words := range l(-1, -2, all+1, least, most) {
		wantBadTree(t, l(-1), l(words), api.ErrRange)
		for k := range 3 {
			list := l(0, all, 7)
			list[k] = words
			wantBadTree(t, l(2, 2, -1), list, api.ErrRange)
			wantBadTree(t, l(1, 2, -1), list, api.ErrRange)
		}
	}
}

// M4: which error comes first, node by node: an above ahead of words, an earlier node ahead of a later one.
func TestM4First(t *testing.T) {
	for a := range 4 {
		for b := range 4 {
			above, words := l(3, 2, 3, -1), l(1, 1, 1, 1)
			above[a] = -3
			words[b] = -1
			want := api.ErrForm
			if b < a {
				want = api.ErrRange
			}
			wantBadTree(t, above, words, want)
			wantBadTree(t, above, append(words, 1), api.ErrMany)
			wantBadTree(t, above, words[:3], api.ErrMany)
		}
	}
}

// M5: ordinary ones.
func TestM5Peak(t *testing.T) {
	wantPeak(t, nil, nil, nil, 0)
	wantPeak(t, l(-1), l(5), l(0), 5)
	above, words := l(2, 2, 5, 4, 5, -1), l(4, 1, 3, 9, 1, 2)
	wantPeak(t, above, words, l(0, 1, 2, 3, 4, 5), 13)
	wantPeak(t, above, words, l(3, 4, 1, 0, 2, 5), 10)
	wantPeak(t, above, words, l(0, 1, 3, 2, 4, 5), 17)
	wantPeak(t, above, words, l(3, 0, 1, 2, 4, 5), 17)
	// A chain needs two at one time.
	wantPeak(t, chain(5), l(1, 5, 2, 4, 3), upTo(5), 7)
	wantPeak(t, chain(5), l(9, 5, 2, 4, 3), upTo(5), 14)
	wantPeak(t, chain(5), l(1, 0, 2, 4, 6), upTo(5), 10)
	// One with many below it needs all of them, in any order.
	for _, order := range [][]int{l(0, 1, 2, 3, 4), l(3, 2, 1, 0, 4), l(2, 0, 3, 1, 4)} {
		wantPeak(t, star(5), l(1, 2, 3, 4, 5), order, 15)
	}
	// What is needed most is made first, last, in between; what has no words is made all the same.
	wantPeak(t, l(1, 3, 3, -1), l(9, 1, 1, 1), l(0, 1, 2, 3), 10)
	wantPeak(t, l(1, 3, 3, -1), l(9, 1, 1, 1), l(2, 0, 1, 3), 11)
	wantPeak(t, l(1, 3, 3, -1), l(9, 1, 1, 1), l(0, 2, 1, 3), 11)
	wantPeak(t, l(1, 3, 3, -1), l(1, 1, 1, 9), l(0, 2, 1, 3), 11)
	wantPeak(t, l(1, 3, 3, -1), l(0, 0, 0, 0), l(0, 2, 1, 3), 0)
}

// M5: orders that are none.
func TestM5Order(t *testing.T) {
	above, words := l(2, 2, 3, -1), l(1, 2, 3, 4)
	right := 0
	for code := range 6 * 6 * 6 * 6 {
		order := l(code%6-1, code/6%6-1, code/36%6-1, code/216-1)
		if slices.Equal(order, l(0, 1, 2, 3)) || slices.Equal(order, l(1, 0, 2, 3)) {
			wantPeak(t, above, words, order, 7)
			right++
			continue
		}
		wantNoPeak(t, above, words, order, api.ErrOrder)
	}
	if right != 2 {
		t.Errorf("%d are right", right)
	}
	// One too few, one too many.
	for _, order := range [][]int{nil, l(0), l(0, 1, 2), l(1, 2, 3), l(0, 1, 3), l(0, 1, 2, 3, 3), l(0, 1, 2, 3, 4), l(0, 0, 1, 2, 3), l(0, 1, 2, 3, -1), l(0, 1, 2, most), l(least, 0, 1, 2)} {
		wantNoPeak(t, above, words, order, api.ErrOrder)
	}
	wantNoPeak(t, nil, nil, l(0), api.ErrOrder)
	wantNoPeak(t, nil, nil, l(-1), api.ErrOrder)
	wantNoPeak(t, l(-1), l(1), nil, api.ErrOrder)
	wantNoPeak(t, l(-1), l(1), l(0, 0), api.ErrOrder)
	wantNoPeak(t, l(-1), l(1), l(1), api.ErrOrder)
	wantNoPeak(t, l(-1), l(1), l(-1), api.ErrOrder)
	wantNoPeak(t, chain(full), make([]int, full), upTo(full-1), api.ErrOrder)
	wantNoPeak(t, chain(full), make([]int, full), upTo(full+1), api.ErrOrder)
	back := upTo(full)
	slices.Reverse(back)
	wantNoPeak(t, chain(full), make([]int, full), back, api.ErrOrder)
	wantPeak(t, star(full), slices.Repeat(l(1), full), append(back[1:], full-1), full)
}

// M6: first that one of which most is needed beyond its own words.
func TestM6Climb(t *testing.T) {
	wantClimb(t, nil, nil, 0)
	wantClimb(t, l(-1), l(7), 7, 0)
	wantClimb(t, l(2, 2, 5, 4, 5, -1), l(4, 1, 3, 9, 1, 2), 10, 3, 4, 0, 1, 2, 5)
	// A chain has one order.
	wantClimb(t, chain(5), l(1, 5, 2, 4, 3), 7, 0, 1, 2, 3, 4)
	// As much beyond their own words: the lesser number first, whatever their words are.
	wantClimb(t, star(5), l(1, 4, 2, 3, 1), 11, 0, 1, 2, 3, 4)
	wantClimb(t, star(5), l(4, 3, 2, 1, 1), 11, 0, 1, 2, 3, 4)
	wantClimb(t, l(2, 3, 4, 4, -1), l(5, 5, 1, 9, 1), 15, 0, 2, 1, 3, 4)
	wantClimb(t, l(2, 3, 4, 4, -1), l(5, 5, 9, 1, 1), 15, 0, 2, 1, 3, 4)
	wantClimb(t, l(3, 2, 4, 4, -1), l(5, 5, 9, 1, 1), 15, 1, 2, 0, 3, 4)
	// More beyond: first, though its number is the greater one.
	wantClimb(t, l(2, 3, 4, 4, -1), l(5, 6, 1, 1, 1), 7, 1, 3, 0, 2, 4)
	wantClimb(t, l(2, 3, 4, 4, -1), l(6, 5, 1, 1, 1), 7, 0, 2, 1, 3, 4)
	// The one with more words of its own goes later: as much is needed for both, but less beyond.
	wantClimb(t, l(2, 3, 4, 4, -1), l(2, 5, 5, 2, 1), 9, 1, 3, 0, 2, 4)
	wantClimb(t, l(2, 3, 4, 4, -1), l(5, 2, 2, 5, 1), 9, 0, 2, 1, 3, 4)
	// More is needed for one in all, but not beyond its own words.
	wantClimb(t, l(2, 3, 4, 4, -1), l(3, 4, 9, 1, 1), 13, 1, 3, 0, 2, 4)
	// One without anything below it: nothing beyond. One without words, whose tree has some.
	wantClimb(t, l(2, 3, 3, -1), l(2, 9, 1, 1), 11, 0, 2, 1, 3)
	wantClimb(t, l(3, 3, 3, -1), l(0, 9, 0, 1), 10, 0, 1, 2, 3)
	wantClimb(t, l(4, 2, 4, 4, -1), l(3, 2, 0, 3, 0), 6, 1, 2, 0, 3, 4)
	// What is needed for a tree is what is needed at one time, not all of its words.
	wantClimb(t, l(2, 2, 9, 4, 5, 6, 9, 9, 9, -1), l(3, 3, 1, 3, 3, 3, 1, 0, 2, 1), 7, 0, 1, 2, 3, 4, 5, 6, 7, 8, 9)
}

// M6: trees are made one behind the other, not node by node.
func TestM6TreeByTree(t *testing.T) {
	wantClimb(t, l(3, 2, 4, 4, -1), l(1, 1, 1, 1, 1), 3, 1, 2, 0, 3, 4)
	wantClimb(t, l(2, 3, 4, 5, 6, 6, -1), l(1, 1, 1, 1, 1, 1, 1), 3, 0, 2, 4, 1, 3, 5, 6)
	wantClimb(t, l(4, 5, 4, 5, 6, 6, -1), l(1, 2, 1, 2, 1, 1, 1), 5, 1, 3, 5, 0, 2, 4, 6)
}

// others are all orders of a node's tree in which it is made tree by tree.
func others(above []int, node int) [][]int {
	var out [][]int
	for _, below := range shuffles(belowByHand(above, node)) {
		orders := [][]int{{}}
		for _, b := range below {
			var longer [][]int
			for _, order := range orders {
				for _, tree := range others(above, b) {
					longer = append(longer, append(slices.Clone(order), tree...))
				}
			}
			orders = longer
		}
		out = append(out, orders...)
	}
	for k := range out {
		out[k] = append(out[k], node)
	}
	return out
}

// shuffles are all orders of a list.
func shuffles(list []int) [][]int {
	if len(list) == 0 {
		return [][]int{{}}
	}
	var out [][]int
	for k, first := range list {
		for _, rest := range shuffles(slices.Delete(slices.Clone(list), k, k+1)) {
			out = append(out, append(l(first), rest...))
		}
	}
	return out
}

// M5, M6: dice-thrown trees, against the words; of all that make tree by tree, no order needs less.
func TestM6Thrown(t *testing.T) {
	d := thrown(4)
	better := 0
	for range 3000 {
		above, words := d.tree()
		if len(above) == 0 {
			continue
		}
		order := climbByHand(above, words, len(above)-1)
		need := peakByHand(above, words, order)
		wantClimb(t, above, words, need, order...)
		for range 3 {
			order := d.order(above)
			wantPeak(t, above, words, order, peakByHand(above, words, order))
		}
		if len(above) > 6 {
			continue
		}
		for _, order := range others(above, len(above)-1) {
			got, err := room.Peak(above, words, order)
			if err != api.OK || got < need {
				t.Fatalf("%v %v: %d and %d come in the order %v, and %d is told", above, words, got, err, order, need)
			}
			if got > need {
				better++
			}
		}
	}
	if better < 300 {
		t.Errorf("%d orders need more", better)
	}
}

// M6: what is told is the Peak of the order, of great trees too.
func TestM6Great(t *testing.T) {
	d := thrown(5)
	for _, reach := range l(1, 2, 3, 10, 100, full) {
		above, words := make([]int, full), make([]int, full)
		for k := range above {
			above[k] = min(k+1+d.IntN(reach), full-1)
			words[k] = d.IntN(all + 1)
		}
		above[full-1] = -1
		order, need, err := room.Climb(above, words)
		if err != api.OK {
			t.Fatalf("%d comes", err)
		}
		wantPeak(t, above, words, order, need)
	}
}
