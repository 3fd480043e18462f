package train_test

import (
	"fmt"
	"math"
	"math/big"
	"math/rand/v2"
	"slices"
	"testing"

	"adjoint/api"
	"adjoint/train"
)

const (
	crowd    = 16      // as many machines as there may be
	full     = 4096    // as many rows as there may be
	allSteps = 1 << 20 // as many steps as there may be
	most     = math.MaxInt
	least    = math.MinInt
)

// l are numbers, w are words.
func l(numbers ...int) []int { return numbers }

func w(words ...int64) []int64 { return words }

// of is an array.
func of(dims []int, data ...int64) api.Array { return api.Array{Dims: dims, Data: data} }

// size is how many entries these dimensions have.
func size(dims []int) int {
	out := 1
	for _, d := range dims {
		out *= d
	}
	return out
}

// short is the beginning of what is shown.
func short(what ...any) string {
	s := fmt.Sprint(what...)
	if len(s) > 400 {
		return s[:400] + " .."
	}
	return s
}

// lesson is a loss, and what the weights are told by a row, worked out by hand.
type lesson struct {
	name, text string
	dims, row  []int
	tells      func(w, x []int64) []int64
}

// lessons are losses of many kinds.
func lessons() []lesson {
	return []lesson{
		{"line", "fn loss(w: [2], x: [2]) = let d = dot{0}{0}(w, x) - 1 in d * d;", l(2), l(2), func(w, x []int64) []int64 {
			d := w[0]*x[0] + w[1]*x[1] - 1
			return []int64{2 * d * x[0], 2 * d * x[1]}
		}},
		{"numbers", "fn loss(w: [], x: []) = w * w * w * x;", nil, nil, func(w, x []int64) []int64 {
			return []int64{3 * w[0] * w[0] * x[0]}
		}},
		{"table", "fn norm(y: [a b]) = sum{0 1}(y * y); fn loss(w: [2 3], x: [3 2]) = norm(dot{1}{0}(w, x));", l(2, 3), l(3, 2), func(w, x []int64) []int64 {
			out := make([]int64, 6)
			for i := range 2 {
				for k := range 2 {
					y := w[3*i]*x[k] + w[3*i+1]*x[2+k] + w[3*i+2]*x[4+k]
					for j := range 3 {
						out[3*i+j] += 2 * y * x[2*j+k]
					}
				}
			}
			return out
		}},
		{"rows without entries", "fn loss(w: [3], x: [0]) = sum{0}(w * w) + sum{0}(x);", l(3), l(0), func(w, _ []int64) []int64 {
			return []int64{2 * w[0], 2 * w[1], 2 * w[2]}
		}},
		{"weights without entries", "fn loss(w: [0 2], x: [2]) = sum{0 1}(w) + sum{0}(x);", l(0, 2), l(2), func(_, _ []int64) []int64 {
			return nil
		}},
		{"greater", "fn loss(w: [3], x: [3]) = sum{0}(max(w, x) * x);", l(3), l(3), func(w, x []int64) []int64 {
			out := make([]int64, 3)
			for i := range out {
				if w[i] >= x[i] {
					out[i] = x[i]
				}
			}
			return out
		}},
		{"untouched", "fn loss(w: [2], x: [2 2]) = sum{0 1}(x) * 5;", l(2), l(2, 2), func(_, _ []int64) []int64 {
			return []int64{0, 0}
		}},
		{"taken", "fn loss(w: [4], x: [3]) = 3 * sum{0}(take(w, x));", l(4), l(3), func(_, x []int64) []int64 {
			out := make([]int64, 4)
			for _, n := range x {
				if n >= 0 && n < 4 {
					out[n] += 3
				}
			}
			return out
		}},
		{"again", "fn loss(w: [1], x: [1]) = sum{0}(repeat 3 y = w with y * x - 2);", l(1), l(1), func(_, x []int64) []int64 {
			return []int64{x[0] * x[0] * x[0]}
		}},
	}
}

// named is the lesson of this name.
func named(t *testing.T, name string) lesson {
	t.Helper()
	all := lessons()
	k := slices.IndexFunc(all, func(x lesson) bool { return x.name == name })
	if k < 0 {
		t.Fatalf("there is no lesson %s", name)
	}
	return all[k]
}

// class is all that a trainer is opened with, but for the disk and the machines; and the lesson.
type class struct {
	lesson
	plan        api.Plan
	data, start api.Array
}

// taught is a class: Rate 3, Keep 2, and the seed s, Batch of so many rows, saved so often; the numbers are thrown.
func (x lesson) taught(d dice, rows, batch, every int) class {
	p := api.Plan{Text: x.text, Loss: "loss", Dims: x.dims, Row: x.row, Batch: batch, Rate: 3, Keep: 2, Every: every, Seed: "s"}
	dims := append(l(rows), x.row...)
	return class{x, p, of(dims, d.words(size(dims))...), of(slices.Clone(x.dims), d.words(size(x.dims))...)}
}

// needs is how many words both slots take.
func (c class) needs() int { return 4*size(c.dims) + 2 }

// disk returns an empty disk with these words and no more.
func (c class) disk() *disk { return empty(c.needs()) }

// with returns an empty disk that has these words behind both slots.
func (c class) with(behind ...int64) *disk {
	return holding(slices.Concat(make([]int64, c.needs()), behind)...)
}

// open is a trainer that can be opened.
func (c class) open(t *testing.T, d api.Disk, machines int) *train.Trainer {
	t.Helper()
	x, err := train.Open(c.plan, c.data, c.start, d, machines)
	if x == nil || err != api.OK {
		t.Fatalf("%s: Open for %d machines: %d comes", c.name, machines, err)
	}
	return x
}

// put is a word that was put, or would have been.
type put struct {
	at   int
	word int64
}

// disk is a disk whose power may go, and which remembers what was put.
type disk struct {
	words []int64
	left  int   // so many words can be put yet; below 0: any number
	puts  []put // the one that there was no power for is the last
	reach int   // the words that were asked for are below it
	bad   bool  // a word was asked for, or put, that there is not
}

func empty(words int) *disk { return &disk{words: make([]int64, words), left: -1} }

// holding is a disk with these words.
func holding(words ...int64) *disk { return &disk{words: slices.Clone(words), left: -1} }

func (d *disk) Size() int { return len(d.words) }

func (d *disk) Get(i int) int64 {
	d.reach = max(d.reach, i+1)
	if i < 0 || i >= len(d.words) {
		d.bad = true
		return 0
	}
	return d.words[i]
}

func (d *disk) Put(i int, w int64) bool {
	d.puts = append(d.puts, put{i, w})
	if i < 0 || i >= len(d.words) {
		d.bad = true
		return false
	}
	if d.left == 0 {
		return false
	}
	d.left = max(d.left-1, -1)
	d.words[i] = w
	return true
}

// power: it lasts for so many words more; below 0: for ever.
func (d *disk) power(left int) { d.left = left }

// wantDisk: these words are on the disk, and nothing was done with it that is not allowed.
func wantDisk(t *testing.T, d *disk, want ...int64) {
	t.Helper()
	if !slices.Equal(d.words, want) || d.bad {
		t.Errorf("the disk has %v (%t), not %v", d.words, d.bad, want)
	}
}

// wantPuts: these words were put since this was asked last, in this order.
func wantPuts(t *testing.T, d *disk, want ...put) {
	t.Helper()
	if !slices.Equal(d.puts, want) {
		t.Errorf("%v were put, not %v", d.puts, want)
	}
	d.puts = nil
}

// wantStep: a step tells this.
func wantStep(t *testing.T, x *train.Trainer, picks []int, fall int, want api.Errno) {
	t.Helper()
	if err := x.Step(picks, fall); err != want {
		t.Errorf("Step of %s and %d: %d comes, not %d", short(picks), fall, err, want)
	}
}

// wantWeights: these are the weights, after so many steps, however often one asks.
func wantWeights(t *testing.T, x *train.Trainer, steps int, dims []int, words ...int64) {
	t.Helper()
	for range 2 {
		a, many, err := x.Weights()
		if err != api.OK || many != steps || !slices.Equal(a.Dims, dims) || !slices.Equal(a.Data, words) {
			t.Errorf("Weights: %s, %d and %d come, not %s and %d", short(a), many, err, short(of(dims, words...)), steps)
		}
	}
}

// wantBroken: the trainer tells ErrState alone from now on, and puts nothing.
func wantBroken(t *testing.T, x *train.Trainer, d *disk) {
	t.Helper()
	was, puts := slices.Clone(d.words), len(d.puts)
	for _, fall := range l(-1, 0, 1, most) {
		wantStep(t, x, nil, fall, api.ErrState)
		if a, many, err := x.Weights(); err != api.ErrState || many != 0 || len(a.Dims) != 0 || len(a.Data) != 0 {
			t.Errorf("Weights: %s, %d and %d come", short(a), many, err)
		}
	}
	if !slices.Equal(was, d.words) || len(d.puts) != puts {
		t.Errorf("a broken trainer has put %v", d.puts[puts:])
	}
}

// whole is a number that does not wrap round.
func whole(n uint64) *big.Int { return new(big.Int).SetUint64(n) }

// orderByHand is the order by the words of W2, with numbers that do not wrap round by themselves.
func orderByHand(seed string, rows, epoch int) []int {
	all := new(big.Int).Lsh(big.NewInt(1), 64)
	on := func(s, by, more *big.Int) *big.Int {
		s = new(big.Int).Mul(s, by)
		return s.Mod(s.Add(s, more), all)
	}
	s, first := new(big.Int), whole(1099511628211)
	for _, b := range []byte(seed) {
		s = on(s, first, big.NewInt(int64(b)+1))
	}
	s = on(s, first, big.NewInt(int64(epoch)+1))
	out := make([]int, rows)
	for k := range out {
		out[k] = k
	}
	for i := rows - 1; i >= 1; i-- {
		s = on(s, whole(6364136223846793005), whole(1442695040888963407))
		down := new(big.Int).Rsh(s, 33)
		j := int(down.Mod(down, big.NewInt(int64(i)+1)).Int64())
		at := out[i]
		out[i] = out[j]
		out[j] = at
	}
	return out
}

// byHand is a trainer by the words of W3 to W7, with a disk of its own; machines and picks make no difference.
type byHand struct {
	class
	*disk
	weights, momentum []int64
	steps, machines   int
	from              int // the slot of the newest state, if any
	broken            bool
}

// openByHand goes on from a disk.
func (c class) openByHand(d *disk, machines int) *byHand {
	n := size(c.dims)
	h := &byHand{class: c, disk: d, machines: machines, from: -1}
	h.weights, h.momentum = slices.Clone(c.start.Data), make([]int64, n)
	first, second := d.words[0], d.words[2*n+1]
	says := func(head int64) bool { return head >= 1 && head <= allSteps+1 }
	switch {
	case says(first) && (!says(second) || first >= second):
		h.from = 0
	case says(second):
		h.from = 1
	default:
		return h
	}
	slot := d.words[h.from*(2*n+1):][:2*n+1]
	h.steps, h.weights, h.momentum = int(slot[0])-1, slices.Clone(slot[1:n+1]), slices.Clone(slot[n+1:])
	return h
}

// told is what the weights are told by the rows of the next step.
func (h *byHand) told() []int64 {
	rows := h.data.Dims[0]
	long := rows / h.plan.Batch
	order := orderByHand(h.plan.Seed, rows, h.steps/long)
	n := size(h.row)
	out := make([]int64, len(h.weights))
	for k := range h.plan.Batch {
		at := order[h.plan.Batch*(h.steps%long)+k]
		for i, word := range h.tells(h.weights, h.data.Data[at*n:(at+1)*n]) {
			out[i] += word
		}
	}
	return out
}

// other is the slot in which the newest state does not lie.
func (h *byHand) other() int {
	if h.from == 0 {
		return 1
	}
	return 0
}

// saved are the words that are put to save the state, in order.
func (h *byHand) saved() []put {
	n := len(h.weights)
	at := h.other() * (2*n + 1)
	out := []put{{at, 0}}
	for i, word := range h.weights {
		out = append(out, put{at + 1 + i, word})
	}
	for i, word := range h.momentum {
		out = append(out, put{at + 1 + n + i, word})
	}
	return append(out, put{at, int64(h.steps) + 1})
}

func (h *byHand) step(fall int) api.Errno {
	if h.broken {
		return api.ErrState
	}
	if h.steps == allSteps {
		return api.ErrMuch
	}
	if fall >= 0 && fall < 2*h.machines*(h.machines-1) {
		h.broken = true
		return api.ErrPower
	}
	for i, g := range h.told() {
		h.momentum[i] = h.plan.Keep*h.momentum[i] + g
		h.weights[i] -= h.plan.Rate * h.momentum[i]
	}
	h.steps++
	if h.steps%h.plan.Every != 0 {
		return api.OK
	}
	for _, p := range h.saved() {
		if !h.Put(p.at, p.word) {
			h.broken = true
			return api.ErrPower
		}
	}
	h.from = h.other()
	return api.OK
}

// look is what Weights tells.
func (h *byHand) look() (api.Array, int, api.Errno) {
	if h.broken {
		return api.Array{}, 0, api.ErrState
	}
	return of(h.dims, h.weights...), h.steps, api.OK
}

// wantAlike: the trainer tells the same weights as the one by hand, and their disks are alike.
func wantAlike(t *testing.T, x *train.Trainer, d *disk, h *byHand) {
	t.Helper()
	a, steps, err := x.Weights()
	want, many, no := h.look()
	if err != no || steps != many || !slices.Equal(a.Dims, want.Dims) || !slices.Equal(a.Data, want.Data) {
		t.Errorf("%s: Weights: %s, %d and %d come, not %s, %d and %d", h.name, short(a), steps, err, short(want), many, no)
	}
	if !slices.Equal(d.words, h.words) || d.bad {
		t.Errorf("%s: the disk has %s (%t), not %s", h.name, short(d.words), d.bad, short(h.words))
	}
	if !slices.Equal(d.puts, h.puts) {
		t.Errorf("%s: %s were put, not %s", h.name, short(d.puts), short(h.puts))
	}
}

// wantBehind: these words lie behind both slots, and nobody looked at them.
func (c class) wantBehind(t *testing.T, d *disk, want ...int64) {
	t.Helper()
	if got := d.words[c.needs():]; !slices.Equal(got, want) {
		t.Errorf("%s: %s lie behind both slots, not %s", c.name, short(got), short(want))
	}
	if d.reach > c.needs() {
		t.Errorf("%s: word %d was asked for, and just %d are the slots'", c.name, d.reach-1, c.needs())
	}
}

// dice throw what is asked for.
type dice struct{ *rand.Rand }

func thrown(seed uint64) dice { return dice{rand.New(rand.NewPCG(16, seed))} }

func (d dice) of(all ...int) int { return all[d.IntN(len(all))] }

// words are so many, some of them at the edges of numbers.
func (d dice) words(many int) []int64 {
	out := make([]int64, many)
	for k := range out {
		switch d.IntN(4) {
		case 0:
			out[k] = int64(d.Uint64())
		case 1, 2:
			out[k] = int64(d.IntN(19) - 9)
		default:
			out[k] = w(math.MinInt64, math.MinInt64+1, -1, 0, 1, math.MaxInt64-1, math.MaxInt64)[d.IntN(7)]
		}
	}
	return out
}

// picks are some, of all kinds.
func (d dice) picks() []int {
	out := make([]int, d.IntN(6))
	for k := range out {
		out[k] = d.of(least, least+1, -17, -2, -1, 0, 1, 2, 3, 5, 240, most-1, most)
	}
	return out
}

// class is any, with any numbers.
func (d dice) class() class {
	all := lessons()
	batch := d.of(1, 1, 2, 3, 5)
	c := all[d.IntN(len(all))].taught(d, batch*d.of(1, 2, 3), batch, d.of(1, 1, 2, 3, 4))
	c.plan.Rate, c.plan.Keep = d.words(1)[0], d.words(1)[0]
	c.plan.Seed = []string{"", "s", "seed", "\x00\xff\x80", "ä€"}[d.IntN(5)]
	return c
}
