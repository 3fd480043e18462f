package train_test

import (
	"fmt"
	"math"
	"slices"
	"testing"

	"adjoint/api"
	"adjoint/train"
)

// W4, W5: which slot is gone on from, if these are the heads; none: from the start.
func TestW5Heads(t *testing.T) {
	const none = -1
	c := named(t, "line").taught(thrown(1), 4, 2, 1)
	for _, x := range []struct {
		first, second int64
		slot          int
	}{
		{0, 0, none}, {0, -1, none}, {-1, 0, none}, {-1, -1, none}, {-1, -2, none}, {-2, -1, none},
		{math.MinInt64, math.MinInt64, none}, {math.MaxInt64, math.MaxInt64, none}, {math.MinInt64, math.MaxInt64, none},
		{allSteps + 2, 0, none}, {0, allSteps + 2, none}, {allSteps + 2, allSteps + 2, none}, {allSteps + 3, allSteps + 2, none}, {1 << 32, 1<<32 + 1, none}, {1<<40 + 1, 0, none},
		{1, 0, 0}, {0, 1, 1}, {1, -1, 0}, {-1, 1, 1}, {7, math.MinInt64, 0}, {math.MinInt64, 7, 1},
		{1, 2, 1}, {2, 1, 0}, {7, 6, 0}, {6, 7, 1}, {100, 3, 0}, {3, 100, 1},
		{1, 1, 0}, {2, 2, 0}, {7, 7, 0}, {allSteps + 1, allSteps + 1, 0},
		{allSteps + 1, 0, 0}, {0, allSteps + 1, 1}, {allSteps + 1, allSteps, 0}, {allSteps, allSteps + 1, 1}, {allSteps, 0, 0},
		{allSteps + 2, 1, 1}, {1, allSteps + 2, 0}, {allSteps + 2, allSteps + 1, 1}, {allSteps + 1, allSteps + 2, 0},
		{math.MaxInt64, 5, 1}, {5, math.MaxInt64, 0}, {1<<32 + 1, 5, 1}, {5, 1<<32 + 7, 0}, {math.MaxInt64, -5, none},
	} {
		words := w(x.first, 10, 11, 12, 13, x.second, 20, 21, 22, 23)
		d := holding(words...)
		trainer := c.open(t, d, 2)
		switch x.slot {
		case none:
			wantWeights(t, trainer, 0, l(2), c.start.Data...)
		case 0:
			wantWeights(t, trainer, int(x.first)-1, l(2), 10, 11)
		default:
			wantWeights(t, trainer, int(x.second)-1, l(2), 20, 21)
		}
		wantDisk(t, d, words...)
		wantPuts(t, d)
		// And a step goes on from there, with that momentum, and is saved in the other slot.
		h := c.openByHand(holding(words...), 2)
		if h.from != x.slot {
			t.Errorf("by hand slot %d is gone on from", h.from)
		}
		wantStep(t, trainer, nil, -1, h.step(-1))
		wantAlike(t, trainer, d, h)
		if t.Failed() {
			t.Fatalf("the heads are %d and %d", x.first, x.second)
		}
	}
}

// W4: of weights without entries a slot has its head alone; of one number it has three words.
func TestW4Small(t *testing.T) {
	c := named(t, "weights without entries").taught(thrown(2), 2, 1, 1)
	d := empty(2)
	x := c.open(t, d, 3)
	wantWeights(t, x, 0, l(0, 2))
	for step := range 5 {
		wantStep(t, x, nil, -1, api.OK)
		wantWeights(t, x, step+1, l(0, 2))
		head := int64(step) + 2
		wantPuts(t, d, put{step % 2, 0}, put{step % 2, head})
	}
	wantDisk(t, d, 6, 5)
	wantWeights(t, c.open(t, d, 1), 5, l(0, 2))
	c = named(t, "numbers").taught(thrown(2), 1, 1, 1)
	c.data, c.start, c.plan.Rate, c.plan.Keep = of(l(1), 5), of(nil, 2), 1, 1
	d = empty(6)
	x = c.open(t, d, 2)
	wantWeights(t, x, 0, nil, 2)
	// 3 times 4 times 5.
	wantStep(t, x, nil, -1, api.OK)
	wantWeights(t, x, 1, nil, -58)
	wantDisk(t, d, 2, -58, 60, 0, 0, 0)
	d = holding(3, 7, 9, 4, 1, 2)
	x = c.open(t, d, 1)
	wantWeights(t, x, 3, nil, 1)
	// 3 times 1 times 5, and 2 that stays.
	wantStep(t, x, nil, -1, api.OK)
	wantWeights(t, x, 4, nil, -16)
	wantDisk(t, d, 5, -16, 17, 4, 1, 2)
}

// wrongOpen is something that is wrong with what a trainer is to be opened with.
type wrongOpen struct {
	name string
	at   int // those with lower numbers come first
	want api.Errno
	make func(x *opening)
}

// opening is what a trainer is to be opened with.
type opening struct {
	thing
	start    api.Array
	disk     api.Disk
	machines int
}

func (x opening) open() (*train.Trainer, api.Errno) {
	return train.Open(x.plan, x.data, x.start, x.disk, x.machines)
}

// wrongOpens are what can be wrong, beside what W1 names.
func wrongOpens() []wrongOpen {
	start := func(dims []int, words int) func(x *opening) {
		return func(x *opening) { x.start = of(dims, make([]int64, words)...) }
	}
	machines := func(many int) func(x *opening) { return func(x *opening) { x.machines = many } }
	disk := func(words int) func(x *opening) { return func(x *opening) { x.disk = empty(words) } }
	return []wrongOpen{
		{"start with too many dimensions", 1, api.ErrRank, start(l(2, 1, 1, 1, 1, 1, 1), 2)},
		{"start below 0", 1, api.ErrRange, start(l(-2), 2)},
		{"start that is too great", 1, api.ErrRange, start(l(4097), 4097)},
		{"start with too many numbers", 1, api.ErrMuch, start(l(4096, 17), 4096*17)},
		{"start with a number too few", 1, api.ErrShape, start(l(2), 1)},
		{"start with a number too many", 1, api.ErrShape, start(l(2), 3)},
		{"start that is nothing", 1, api.ErrShape, func(x *opening) { x.start = api.Array{} }},
		{"start of other dimensions", 2, api.ErrShape, start(l(3), 3)},
		{"start of more dimensions", 2, api.ErrShape, start(l(2, 1), 2)},
		{"start of one number", 2, api.ErrShape, start(nil, 1)},
		{"start of no numbers", 2, api.ErrShape, start(l(0), 0)},
		{"no machines", 3, api.ErrRange, machines(0)},
		{"machines below 0", 3, api.ErrRange, machines(-1)},
		{"a machine too many", 3, api.ErrRange, machines(crowd + 1)},
		{"machines far below 0", 3, api.ErrRange, machines(least)},
		{"very many machines", 3, api.ErrRange, machines(most)},
		{"a disk without words", 4, api.ErrMuch, disk(0)},
		{"a disk for one slot", 4, api.ErrMuch, disk(5)},
		{"a disk of a word too few", 4, api.ErrMuch, disk(9)},
		{"no disk", 4, api.ErrMuch, func(x *opening) { x.disk = nil }},
	}
}

// opened is what nothing is wrong with.
func opened() opening { return opening{right(), of(l(2), 1, -1), empty(10), 2} }

// wantNoOpen: this is wrong, there is no trainer, and nothing was put.
func wantNoOpen(t *testing.T, name string, x opening, want api.Errno) {
	t.Helper()
	got, err := x.open()
	if got != nil || err != want {
		t.Errorf("%s: %d comes, not %d", name, err, want)
	}
	if d, ok := x.disk.(*disk); ok && (len(d.puts) != 0 || d.bad) {
		t.Errorf("%s: %v were put (%t)", name, d.puts, d.bad)
	}
}

// W5: each error of Open, one by one, and of two the one that comes first.
func TestW5Errors(t *testing.T) {
	if x, err := opened().open(); x == nil || err != api.OK {
		t.Fatalf("%d comes", err)
	}
	for _, first := range wrongOpens() {
		x := opened()
		first.make(&x)
		wantNoOpen(t, first.name, x, first.want)
		for _, second := range wrongOpens() {
			if first.at < second.at && second.at > 2 {
				x := opened()
				second.make(&x)
				first.make(&x)
				wantNoOpen(t, first.name+", "+second.name, x, first.want)
			}
		}
		for _, f := range faults() {
			x := opened()
			first.make(&x)
			f.make(&x.thing)
			wantNoOpen(t, f.name+", "+first.name, x, f.want)
		}
	}
	x := opened()
	x.start, x.machines, x.disk = of(l(3), 1), 0, empty(3)
	wantNoOpen(t, "a start that is wrong", x, api.ErrShape)
	x.start = of(l(-1), 1)
	wantNoOpen(t, "a start that is wrong, and of other dimensions", x, api.ErrRange)
}

// W5: as many machines as there may be, and each number below.
func TestW5Machines(t *testing.T) {
	for machines := range crowd {
		x := opened()
		x.machines = machines + 1
		if got, err := x.open(); got == nil || err != api.OK {
			t.Errorf("%d machines: %d comes", machines+1, err)
		}
	}
}

// W5: the words that a disk must have, be there more or not, hang on how many entries the weights have.
func TestW5Sizes(t *testing.T) {
	for _, x := range lessons() {
		c := x.taught(thrown(3), 2, 1, 1)
		n := size(x.dims)
		for words := range 8*n + 8 {
			got, err := train.Open(c.plan, c.data, c.start, empty(words), 1)
			if fits := words >= 4*n+2; fits != (got != nil) || fits != (err == api.OK) || !fits && err != api.ErrMuch {
				t.Errorf("%s: a disk of %d words: %d comes", x.name, words, err)
			}
		}
	}
}

// behinds are words that may lie behind both slots, some of which would say something if they were a head.
func (c class) behinds(d dice) [][]int64 {
	slot := 2*size(c.dims) + 1
	third := append(w(allSteps+1), d.words(slot-1)...)
	return [][]int64{nil, w(7), w(allSteps + 1), w(0, 3), third, append(w(-1), third...), slices.Concat(third, third, third), d.words(100)}
}

// W4, W5: on a disk with more words a trainer goes on, falls and saves as on one that has just those of both slots; what lies behind them is nobody's.
func TestW5WordsBehind(t *testing.T) {
	d := thrown(5)
	for _, lesson := range lessons() {
		c := lesson.taught(d, 4, 2, 1)
		for _, behind := range c.behinds(d) {
			more, just := c.with(behind...), c.disk()
			for _, machines := range l(2, 1, 3, crowd) {
				x, y := c.open(t, more, machines), c.open(t, just, machines)
				h := c.openByHand(holding(just.words...), machines)
				for _, fall := range l(-1, -1, -1, 0) {
					want := h.step(fall)
					wantStep(t, x, nil, fall, want)
					wantStep(t, y, nil, fall, want)
				}
				wantAlike(t, y, just, h)
				wantPuts(t, more, just.puts...)
				just.puts = nil
				if got := more.words[:c.needs()]; !slices.Equal(got, just.words) {
					t.Errorf("%s: the slots have %s, not %s", c.name, short(got), short(just.words))
				}
				c.wantBehind(t, more, behind...)
			}
			if t.Failed() {
				t.Fatal(short(behind))
			}
		}
	}
}

// vast is a disk that says it has very many words.
type vast struct{ *disk }

func (vast) Size() int { return most }

// minus is a disk that says it has fewer words than none.
type minus struct{ *disk }

func (minus) Size() int { return least }

// W5: a disk may say any number.
func TestW5AnySize(t *testing.T) {
	c := named(t, "line").taught(thrown(6), 4, 2, 1)
	d := c.disk()
	x := c.open(t, vast{d}, 2)
	wantStep(t, x, nil, -1, api.OK)
	wantWeights(t, x, 1, l(2), c.after(1)...)
	if d.bad {
		t.Error("a word was asked for, or put, behind both slots")
	}
	y := opened()
	y.disk = minus{empty(10)}
	wantNoOpen(t, "a disk of fewer words than none", y, api.ErrMuch)
}

// W5: nothing is put on the disk, whatever lies there, however often it is opened; and what lies there is told.
func TestW5PutsNothing(t *testing.T) {
	d := thrown(4)
	for range 300 {
		c := d.class()
		disk := c.with(make([]int64, d.of(0, 0, 1, 2, 9))...)
		copy(disk.words, d.words(len(disk.words)))
		n := size(c.dims)
		for _, at := range l(0, 2*n+1) {
			disk.words[at] = int64(d.of(-1, 0, 0, 1, 2, 3, 4, 5, allSteps, allSteps+1, allSteps+2, most))
		}
		was := slices.Clone(disk.words)
		disk.power(d.of(-1, 0))
		for _, machines := range l(1, 2, crowd) {
			x := c.open(t, disk, machines)
			wantAlike(t, x, disk, c.openByHand(holding(was...), machines))
		}
		if t.Failed() {
			t.Fatal(fmt.Sprint(was))
		}
	}
}
