package room_test

import (
	"fmt"
	"math"
	"math/rand/v2"
	"slices"
	"testing"

	"adjoint/api"
	"adjoint/room"
)

const (
	all   = 1 << 20 // as many words, and as much time, as there may be
	full  = 4096    // as many lives, and as many nodes, as there may be
	most  = math.MaxInt
	least = math.MinInt
)

// l is a list.
func l(numbers ...int) []int { return numbers }

// life is a life.
func life(from, to, words int) api.Life { return api.Life{From: from, To: to, Words: words} }

// lives are several.
func lives(all ...api.Life) []api.Life { return all }

// cut is a text, if it is long the beginning of it.
func cut(s string) string {
	if len(s) > 300 {
		return s[:300] + " .."
	}
	return s
}

// show shows anything, cut.
func show(what ...any) string { return cut(fmt.Sprint(what...)) }

// wantBad: this is wrong with lives, and all calls say so, and nothing else.
func wantBad(t *testing.T, given []api.Life, want api.Errno) {
	t.Helper()
	if got := room.Wrong(given); got != want {
		t.Errorf("Wrong of %s: %d comes, not %d", show(given), got, want)
	}
	if n, err := room.Load(given); n != 0 || err != want {
		t.Errorf("Load of %s: %d and %d come, not %d", show(given), n, err, want)
	}
	wantNoPlaces(t, given, want)
}

// wantNoPlaces: Lay tells this, and nothing else.
func wantNoPlaces(t *testing.T, given []api.Life, want api.Errno) {
	t.Helper()
	if at, n, err := room.Lay(given); len(at) != 0 || n != 0 || err != want {
		t.Errorf("Lay of %s: %s, %d and %d come, not %d", show(given), show(at), n, err, want)
	}
}

// wantLoad: nothing is wrong with lives, and so much is needed at one time.
func wantLoad(t *testing.T, want int, given ...api.Life) {
	t.Helper()
	if err := room.Wrong(given); err != api.OK {
		t.Errorf("Wrong of %s: %d comes", show(given), err)
	}
	if got, err := room.Load(given); got != want || err != api.OK {
		t.Errorf("Load of %s: %d and %d come, not %d", show(given), got, err, want)
	}
}

// wantLay: lives are laid there, and take so much.
func wantLay(t *testing.T, given []api.Life, words int, places ...int) {
	t.Helper()
	at, got, err := room.Lay(given)
	if err != api.OK || got != words || !slices.Equal(at, places) {
		t.Errorf("Lay of %s: %s, %d and %d come, not %s, %d", show(given), show(at), got, err, show(places), words)
	}
}

// wantLives: nodes live so.
func wantLives(t *testing.T, g api.Graph, want ...api.Life) {
	t.Helper()
	if got, err := room.Lives(g); err != api.OK || !slices.Equal(got, want) {
		t.Errorf("Lives of %s: %s and %d come, not %s", show(g), show(got), err, show(want))
	}
}

// wantNoLives: Lives tells this, and nothing else.
func wantNoLives(t *testing.T, g api.Graph, want api.Errno) {
	t.Helper()
	if got, err := room.Lives(g); err != want || len(got) != 0 {
		t.Errorf("Lives of %s: %s and %d come, not %d", show(g), show(got), err, want)
	}
}

// wantPeak: so much is needed in this order.
func wantPeak(t *testing.T, above, words, order []int, want int) {
	t.Helper()
	if got, err := room.Peak(above, words, order); got != want || err != api.OK {
		t.Errorf("Peak of %s: %d and %d come, not %d", show(above, words, order), got, err, want)
	}
}

// wantNoPeak: Peak tells this, and nothing else.
func wantNoPeak(t *testing.T, above, words, order []int, want api.Errno) {
	t.Helper()
	if got, err := room.Peak(above, words, order); got != 0 || err != want {
		t.Errorf("Peak of %s: %d and %d come, not %d", show(above, words, order), got, err, want)
	}
}

// wantClimb: this is the order, and so much is needed in it; which is its Peak.
func wantClimb(t *testing.T, above, words []int, want int, order ...int) {
	t.Helper()
	got, n, err := room.Climb(above, words)
	if err != api.OK || n != want || !slices.Equal(got, order) {
		t.Errorf("Climb of %s: %s, %d and %d come, not %s, %d", show(above, words), show(got), n, err, show(order), want)
	}
	wantPeak(t, above, words, order, want)
}

// wantBadTree: this is wrong with a tree, whatever the order is.
func wantBadTree(t *testing.T, above, words []int, want api.Errno) {
	t.Helper()
	if order, n, err := room.Climb(above, words); len(order) != 0 || n != 0 || err != want {
		t.Errorf("Climb of %s: %s, %d and %d come, not %d", show(above, words), show(order), n, err, want)
	}
	for _, order := range [][]int{nil, l(0), l(0, 0), l(-1), upTo(len(above)), upTo(len(words))} {
		wantNoPeak(t, above, words, order, want)
	}
}

// upTo are the numbers from 0 on, below that.
func upTo(many int) []int {
	out := make([]int, many)
	for k := range out {
		out[k] = k
	}
	return out
}

// chain is a tree in which each node stands above the one ahead of it.
func chain(many int) []int {
	out := upTo(many)
	for k := range out {
		out[k]++
	}
	if many > 0 {
		out[many-1] = -1
	}
	return out
}

// star is a tree in which the last node stands above all others.
func star(many int) []int {
	out := slices.Repeat(l(many-1), many)
	out[many-1] = -1
	return out
}

// takesRoom tells whether a life takes room, by the words of M1.
func takesRoom(one api.Life) bool { return one.Words != 0 && one.To > one.From }

// neededAt tells whether a life is needed at a time.
func neededAt(one api.Life, time int) bool { return one.From <= time && time < one.To }

// loadByHand is Load by the words of M1, for lives that end soon.
func loadByHand(given []api.Life) int {
	out := 0
	for time := range 50 {
		sum := 0
		for _, one := range given {
			if neededAt(one, time) {
				sum += one.Words
			}
		}
		out = max(out, sum)
	}
	return out
}

// together tells whether two lives are needed at one time, for lives that end soon.
func together(a, b api.Life) bool {
	return slices.ContainsFunc(upTo(50), func(time int) bool { return neededAt(a, time) && neededAt(b, time) })
}

// share tells whether two have a word in common, each from its place on.
func share(at int, one api.Life, other int, another api.Life) bool {
	for k := range one.Words {
		if word := at + k; other <= word && word < other+another.Words {
			return true
		}
	}
	return false
}

// layByHand is Lay by the words of M2, for lives that end soon and have few words.
func layByHand(given []api.Life) (places []int, words int) {
	places = make([]int, len(given))
	var lies []int
	for from := range 50 {
		for k, one := range given {
			if one.From != from || !takesRoom(one) {
				continue
			}
			inTheWay := func(i int) bool {
				return together(one, given[i]) && share(places[k], one, places[i], given[i])
			}
			for slices.ContainsFunc(lies, inTheWay) {
				places[k]++
			}
			lies = append(lies, k)
			words = max(words, places[k]+one.Words)
		}
	}
	return places, words
}

// belowByHand are the nodes just below one.
func belowByHand(above []int, node int) []int {
	var out []int
	for k, up := range above {
		if up == node {
			out = append(out, k)
		}
	}
	return out
}

// peakByHand is Peak of right things by the words of M5; of a part of a tree too, if the order has that alone.
func peakByHand(above, words, order []int) int {
	out := 0
	for i, node := range order {
		made := order[:i]
		sum := words[node]
		for k := range above {
			just := above[k] == node
			waits := slices.Contains(made, k) && !slices.Contains(made, above[k])
			if just || waits {
				sum += words[k]
			}
		}
		out = max(out, sum)
	}
	return out
}

// climbByHand is the order of one node's tree by the words of M6.
func climbByHand(above, words []int, node int) []int {
	below := belowByHand(above, node)
	var trees [][]int
	var beyond []int
	for _, b := range below {
		tree := climbByHand(above, words, b)
		trees = append(trees, tree)
		beyond = append(beyond, peakByHand(above, words, tree)-words[b])
	}
	var out []int
	for range below {
		next := -1
		for k := range trees {
			if trees[k] != nil && (next < 0 || beyond[k] > beyond[next]) {
				next = k
			}
		}
		out = append(out, trees[next]...)
		trees[next] = nil
	}
	return append(out, node)
}

// dice throw what is asked for.
type dice struct{ *rand.Rand }

func thrown(seed uint64) dice { return dice{rand.New(rand.NewPCG(12, seed))} }

func (d dice) of(all ...int) int { return all[d.IntN(len(all))] }

// lives are some that end soon and have few words.
func (d dice) lives() []api.Life {
	out := make([]api.Life, d.IntN(12))
	times := 1 + d.IntN(12)
	for k := range out {
		from := d.IntN(times)
		out[k] = life(from, from+d.IntN(times), d.IntN(6))
	}
	return out
}

// tree is a right one.
func (d dice) tree() (above, words []int) {
	many := d.IntN(10)
	reach := 1 + d.IntN(9)
	for k := range many {
		above = append(above, min(k+1+d.IntN(reach), many-1))
		words = append(words, d.IntN(6))
	}
	if many > 0 {
		above[many-1] = -1
	}
	return above, words
}

// order is one in which each node of a tree may be made.
func (d dice) order(above []int) []int {
	var out []int
	for len(out) < len(above) {
		k := d.IntN(len(above))
		missing := func(b int) bool { return !slices.Contains(out, b) }
		if missing(k) && !slices.ContainsFunc(belowByHand(above, k), missing) {
			out = append(out, k)
		}
	}
	return out
}
