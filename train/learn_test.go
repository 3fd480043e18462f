package train_test

import (
	"math"
	"slices"
	"testing"

	"adjoint/api"
	"adjoint/graph"
	"adjoint/slope"
	"adjoint/text"
	"adjoint/train"
)

// small is a class of the lesson "line" with four rows, which are small enough to be reckoned by hand: (1, 0), (0, 1), (2, 1), (1, 1); the weights begin with 1, 2.
func small(t *testing.T, batch int, rate, keep int64) class {
	c := named(t, "line").taught(thrown(1), 4, batch, 1)
	c.data, c.start = of(l(4, 2), 1, 0, 0, 1, 2, 1, 1, 1), of(l(2), 1, 2)
	c.plan.Rate, c.plan.Keep = rate, keep
	return c
}

// W3: two steps of two rows, reckoned by hand.
func TestW3ByHand(t *testing.T) {
	c := small(t, 2, 1, 3)
	c.plan.Seed = ""
	order, _ := train.Order("", 4, 0)
	if !slices.Equal(order, l(1, 3, 0, 2)) {
		t.Fatalf("the order is %v", order)
	}
	d := c.disk()
	x := c.open(t, d, 1)
	wantWeights(t, x, 0, l(2), 1, 2)
	// Row 1: 2 - 1 = 1, so 0, 2 is told; row 3: 3 - 1 = 2, so 4, 4. Together 4, 6; that is the momentum, too.
	wantStep(t, x, nil, -1, api.OK)
	wantWeights(t, x, 1, l(2), -3, -4)
	wantDisk(t, d, 2, -3, -4, 4, 6, 0, 0, 0, 0, 0)
	// Row 0: -3 - 1 = -4, so -8, 0 is told; row 2: -10 - 1 = -11, so -44, -22. Together -52, -22. The momentum is 12 - 52 = -40, 18 - 22 = -4.
	wantStep(t, x, nil, -1, api.OK)
	wantWeights(t, x, 2, l(2), 37, 0)
	wantDisk(t, d, 2, -3, -4, 4, 6, 3, 37, 0, -40, -4)
	// The next epoch has an order of its own.
	order, _ = train.Order("", 4, 1)
	if !slices.Equal(order, l(1, 2, 3, 0)) {
		t.Fatalf("the order is %v", order)
	}
	// Row 1: -1, so 0, -2 is told; row 2: 73, so 292, 146. Together 292, 144. The momentum is -120 + 292 = 172, -12 + 144 = 132.
	wantStep(t, x, nil, -1, api.OK)
	wantWeights(t, x, 3, l(2), -135, -132)
	// Row 3: -268, so -536, -536; row 0: -136, so -272, 0. Together -808, -536. The momentum is 516 - 808 = -292, 396 - 536 = -140.
	wantStep(t, x, nil, -1, api.OK)
	wantWeights(t, x, 4, l(2), 157, 8)
	wantDisk(t, d, 4, -135, -132, 172, 132, 5, 157, 8, -292, -140)
}

// W3: what Rate and Keep do, of noughts, ones, negative and great numbers, for some epochs.
func TestW3RateAndKeep(t *testing.T) {
	numbers := w(0, 1, -1, 2, -3, 1<<32, math.MaxInt64, math.MinInt64)
	for _, batch := range l(1, 2, 4) {
		for _, rate := range numbers {
			for _, keep := range numbers {
				c := small(t, batch, rate, keep)
				d, own := c.disk(), c.disk()
				x, h := c.open(t, d, 2), c.openByHand(own, 2)
				for range 3*4/batch + 1 {
					wantStep(t, x, nil, -1, h.step(-1))
					wantAlike(t, x, d, h)
				}
				if t.Failed() {
					t.Fatalf("batch %d, rate %d, keep %d", batch, rate, keep)
				}
			}
		}
	}
}

// W3: where Rate is 0 nothing is learned, but the momentum grows; where Keep is 0 nothing of it stays.
func TestW3Noughts(t *testing.T) {
	c := small(t, 4, 0, 1)
	d := c.disk()
	x := c.open(t, d, 3)
	// Row 0: 0. Row 1: 1, so 0, 2. Row 2: 3, so 12, 6. Row 3: 2, so 4, 4. Together 16, 12.
	wantStep(t, x, nil, -1, api.OK)
	wantStep(t, x, nil, -1, api.OK)
	wantWeights(t, x, 2, l(2), 1, 2)
	wantDisk(t, d, 2, 1, 2, 16, 12, 3, 1, 2, 32, 24)
	c = small(t, 4, 0, 0)
	d = c.disk()
	x = c.open(t, d, 3)
	wantStep(t, x, nil, -1, api.OK)
	wantStep(t, x, nil, -1, api.OK)
	wantWeights(t, x, 2, l(2), 1, 2)
	wantDisk(t, d, 2, 1, 2, 16, 12, 3, 1, 2, 16, 12)
}

// W3: losses of all kinds, for some epochs, with rows that are one, some or all of a batch.
func TestW3Lessons(t *testing.T) {
	d := thrown(2)
	for _, x := range lessons() {
		for _, rows := range l(1, 2, 3, 6) {
			for _, batch := range l(1, 2, 3, 6) {
				if rows%batch != 0 {
					continue
				}
				c := x.taught(d, rows, batch, 1)
				c.plan.Rate, c.plan.Keep = d.words(1)[0], d.words(1)[0]
				mine, own := c.disk(), c.disk()
				machines := d.of(1, 2, 3, crowd)
				x, h := c.open(t, mine, machines), c.openByHand(own, machines)
				for range 3 * rows / batch {
					wantStep(t, x, d.picks(), -1, h.step(-1))
					wantAlike(t, x, mine, h)
				}
			}
		}
	}
}

// W3: each row of an epoch has its turn once; which ones are taken in a step hangs on the seed.
func TestW3Turns(t *testing.T) {
	// Each row counts at a place of its own.
	c := named(t, "taken").taught(thrown(3), 4, 1, 1)
	c.data = of(l(4, 3), 0, -1, -1, 1, -1, -1, 2, -1, -1, 3, -1, -1)
	c.start = of(l(4), 0, 0, 0, 0)
	c.plan.Rate, c.plan.Keep = -1, 0
	for _, seed := range seeds() {
		c.plan.Seed = seed
		x := c.open(t, c.disk(), 2)
		want := w(0, 0, 0, 0)
		for epoch := range 4 {
			order, _ := train.Order(seed, 4, epoch)
			for k := range 4 {
				wantStep(t, x, nil, -1, api.OK)
				want[order[k]] += 3
				wantWeights(t, x, 4*epoch+k+1, l(4), want...)
			}
		}
	}
}

// W3: what the weights are told is what Reverse's graph gives for them.
func TestW3Reverse(t *testing.T) {
	d := thrown(4)
	for _, x := range lessons() {
		c := x.taught(d, 3, 3, 1)
		c.plan.Rate, c.plan.Keep = 1, 1
		p, _ := text.Read(x.text)
		g, _ := graph.Build(p, "loss", [][]int{x.dims, x.row})
		back, _ := slope.Reverse(g)
		want := slices.Clone(c.start.Data)
		for k := range 3 {
			n := size(x.row)
			told, err := graph.Eval(back, []api.Array{c.start, of(x.row, c.data.Data[k*n:(k+1)*n]...), of(nil, 1)})
			if err != api.OK {
				t.Fatalf("%s: %d comes", x.name, err)
			}
			for i, word := range told[0].Data {
				want[i] -= word
			}
		}
		trainer := c.open(t, c.disk(), 2)
		wantStep(t, trainer, nil, -1, api.OK)
		wantWeights(t, trainer, 1, x.dims, want...)
	}
}

// W3: as many rows, and as many weights, as there may be.
func TestW3Great(t *testing.T) {
	d := thrown(5)
	for _, batch := range l(1, full/2, full) {
		c := named(t, "line").taught(d, full, batch, 1)
		mine, own := c.disk(), c.disk()
		x, h := c.open(t, mine, crowd), c.openByHand(own, crowd)
		for range 3 {
			wantStep(t, x, d.picks(), -1, h.step(-1))
			wantAlike(t, x, mine, h)
		}
	}
	wide := lesson{"wide", "fn loss(w: [4096 16], x: []) = sum{0 1}(w * w) * x;", l(4096, 16), nil, func(w, x []int64) []int64 {
		out := make([]int64, len(w))
		for i := range out {
			out[i] = 2 * w[i] * x[0]
		}
		return out
	}}
	c := wide.taught(d, 2, 2, 1)
	mine, own := c.disk(), c.disk()
	x, h := c.open(t, mine, crowd), c.openByHand(own, crowd)
	for range 2 {
		wantStep(t, x, d.picks(), -1, h.step(-1))
		wantAlike(t, x, mine, h)
	}
	wantAlike(t, c.open(t, mine, 1), mine, h)
}
