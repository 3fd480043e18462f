package train_test

import (
	"fmt"
	"runtime"
	"slices"
	"sync"
	"testing"
	"time"

	"adjoint/api"
	"adjoint/array"
	"adjoint/graph"
	"adjoint/slope"
	"adjoint/text"
	"adjoint/train"
)

// roomy is a list with room behind it, in which something stands.
func roomy[T any](list []T, with T) []T {
	return append(slices.Clone(list), with, with, with)[:len(list)]
}

// spoil writes over a list, its spare room too.
func spoil[T any](list []T, with T) {
	list = list[:cap(list)]
	for k := range list {
		list[k] = with
	}
}

// lists are all lists of what a trainer is opened with.
func (c *class) lists() (numbers []*[]int, words []*[]int64) {
	return []*[]int{&c.plan.Dims, &c.plan.Row, &c.data.Dims, &c.start.Dims}, []*[]int64{&c.data.Data, &c.start.Data}
}

// roomy is the same class, with room behind each list.
func (c class) roomy() class {
	numbers, words := c.lists()
	for _, list := range numbers {
		*list = roomy(*list, -7)
	}
	for _, list := range words {
		*list = roomy(*list, -7)
	}
	return c
}

// shown tells all lists, with their room.
func (c class) shown() string {
	out := ""
	numbers, words := c.lists()
	for _, list := range numbers {
		out += fmt.Sprint((*list)[:cap(*list)])
	}
	for _, list := range words {
		out += fmt.Sprint((*list)[:cap(*list)])
	}
	return out
}

// spoil writes over all lists.
func (c class) spoil() {
	numbers, words := c.lists()
	for _, list := range numbers {
		spoil(*list, -9)
	}
	for _, list := range words {
		spoil(*list, -9)
	}
}

// E2: what is handed in is only read, the room behind it too, and nothing of it but the disk is kept; what a caller changes in an answer changes nothing that is told later.
func TestE2OnlyRead(t *testing.T) {
	d := thrown(30)
	for range 400 {
		c := d.class()
		given := c.roomy()
		was := given.shown()
		if err := train.Wrong(given.plan, given.data); err != api.OK || given.shown() != was {
			t.Fatalf("%s was handed in, and %s came back with %d", was, given.shown(), err)
		}
		mine, own := c.disk(), c.disk()
		x, h := given.open(t, mine, 3), c.openByHand(own, 3)
		if given.shown() != was {
			t.Fatalf("%s was handed in, and %s came back", was, given.shown())
		}
		given.spoil()
		for range 8 {
			picks := roomy(d.picks(), -7)
			before := fmt.Sprint(picks[:cap(picks)])
			wantStep(t, x, picks, -1, h.step(-1))
			if after := fmt.Sprint(picks[:cap(picks)]); after != before {
				t.Fatalf("%s was handed in, and %s came back", before, after)
			}
			spoil(picks, 1)
			a, _, _ := x.Weights()
			spoil(a.Dims, -9)
			spoil(a.Data, -9)
			wantAlike(t, x, mine, h)
		}
		if t.Failed() {
			t.Fatalf("%s: %s", c.name, was)
		}
	}
}

// E2: a step changes nothing that was handed in, nor anything that was answered ahead of it.
func TestE2Later(t *testing.T) {
	d := thrown(31)
	for range 200 {
		c := d.class()
		given := c.roomy()
		was := given.shown()
		mine := c.disk()
		x := given.open(t, mine, 2)
		first, _, _ := x.Weights()
		shown := fmt.Sprint(first.Dims[:cap(first.Dims)], first.Data[:cap(first.Data)])
		for range 5 {
			wantStep(t, x, nil, -1, api.OK)
		}
		if given.shown() != was {
			t.Fatalf("%s was handed in, and it is %s now", was, given.shown())
		}
		if now := fmt.Sprint(first.Dims[:cap(first.Dims)], first.Data[:cap(first.Data)]); now != shown {
			t.Fatalf("%s was answered, and it is %s now", shown, now)
		}
		// A start that is gone on from on the disk is not changed either.
		x = given.open(t, mine, 2)
		wantStep(t, x, nil, -1, api.OK)
		if given.shown() != was {
			t.Fatalf("%s was handed in, and it is %s now", was, given.shown())
		}
	}
}

// E2: Order's answer is the caller's.
func TestE2Order(t *testing.T) {
	a, _ := train.Order("s", 9, 1)
	b, _ := train.Order("s", 9, 1)
	spoil(a, -9)
	if !slices.Equal(b, orderByHand("s", 9, 1)) {
		t.Errorf("two answers share room")
	}
	wantOrder(t, "s", 9, 1, b...)
}

// E2: one list may be handed in for several things.
func TestE2Shared(t *testing.T) {
	c := small(t, 2, 1, 1)
	c.plan.Dims, c.start = l(2), of(l(2), 1, 2)
	both := l(2)
	words := w(1, 2, 3, 4)
	c.plan.Dims, c.plan.Row, c.start.Dims, c.data.Dims = both, both, both, l(2, 2)
	c.data.Data, c.start.Data = words, words[:2]
	d := c.disk()
	x, h := c.open(t, d, 2), c.openByHand(c.disk(), 2)
	for range 4 {
		wantStep(t, x, both, -1, h.step(-1))
		wantAlike(t, x, d, h)
	}
	if !slices.Equal(words, w(1, 2, 3, 4)) || !slices.Equal(both, l(2)) {
		t.Errorf("they are %v and %v now", words, both)
	}
}

// E3: nil and a list without entries are the same.
func TestE3NilAndEmpty(t *testing.T) {
	for _, none := range [][]int{nil, {}, make([]int, 0, 3)} {
		for _, other := range [][]int{nil, {}, make([]int, 0, 3)} {
			c := named(t, "numbers").taught(thrown(32), 2, 1, 1)
			c.plan.Dims, c.plan.Row, c.start.Dims = none, other, other
			if err := train.Wrong(c.plan, c.data); err != api.OK {
				t.Errorf("%d comes", err)
			}
			d := c.disk()
			x, h := c.open(t, d, 2), c.openByHand(c.disk(), 2)
			wantStep(t, x, none, -1, h.step(-1))
			wantStep(t, x, other, -1, h.step(-1))
			wantAlike(t, x, d, h)
		}
	}
	for _, none := range [][]int64{nil, {}, make([]int64, 0, 3)} {
		c := named(t, "rows without entries").taught(thrown(33), 3, 1, 1)
		c.data.Data = none
		d := c.disk()
		x, h := c.open(t, d, 2), c.openByHand(c.disk(), 2)
		wantStep(t, x, nil, -1, h.step(-1))
		wantAlike(t, x, d, h)
		c = named(t, "weights without entries").taught(thrown(34), 3, 1, 1)
		c.start.Data = none
		d = c.disk()
		x, h = c.open(t, d, 2), c.openByHand(c.disk(), 2)
		wantStep(t, x, nil, -1, h.step(-1))
		wantAlike(t, x, d, h)
	}
}

// wrongByHand is what Wrong says, by the words of W1.
func (x thing) wrongByHand() api.Errno {
	p, fault := text.Read(x.plan.Text)
	if fault.Err != api.OK {
		return fault.Err
	}
	g, err := graph.Build(p, x.plan.Loss, [][]int{x.plan.Dims, x.plan.Row})
	if err != api.OK {
		return err
	}
	one, err := graph.Eval(g, []api.Array{zeros(x.plan.Dims), zeros(x.plan.Row)})
	if err != api.OK || len(one[0].Dims) > 0 {
		return api.ErrShape
	}
	if _, err := slope.Reverse(g); err != api.OK {
		return err
	}
	if err := array.Wrong(x.data); err != api.OK {
		return err
	}
	if len(x.data.Dims) == 0 || !slices.Equal(x.plan.Row, x.data.Dims[1:]) {
		return api.ErrShape
	}
	if x.plan.Batch < 1 || x.plan.Every < 1 || x.data.Dims[0] == 0 || x.data.Dims[0]%x.plan.Batch > 0 {
		return api.ErrRange
	}
	return api.OK
}

// wrongByHand is what Open says, by the words of W5.
func (x opening) wrongByHand() api.Errno {
	if err := x.thing.wrongByHand(); err != api.OK {
		return err
	}
	if err := array.Wrong(x.start); err != api.OK {
		return err
	}
	if !slices.Equal(x.start.Dims, x.plan.Dims) {
		return api.ErrShape
	}
	if x.machines < 1 || x.machines > crowd {
		return api.ErrRange
	}
	if x.disk.Size() < 4*len(x.start.Data)+2 {
		return api.ErrMuch
	}
	return api.OK
}

// zeros is an array of noughts.
func zeros(dims []int) api.Array { return of(dims, make([]int64, size(dims))...) }

// odd is a number that may be anything.
func (d dice) odd() int {
	return d.of(least, -2, -1, 0, 1, 2, 3, 4, 7, crowd, crowd+1, full, full+1, 1<<32, most)
}

// E1, E4: whatever is handed in, nothing panics, the first thing that is wrong is told, and nothing else.
func TestE1Whatever(t *testing.T) {
	d := thrown(35)
	told := map[api.Errno]int{}
	for range 6000 {
		c := d.class()
		c = c.roomy()
		x := opening{thing{c.plan, c.data}, c.start, c.disk(), d.of(1, 2, 3, crowd)}
		for _, list := range []*[]int{&x.plan.Dims, &x.plan.Row, &x.data.Dims, &x.start.Dims} {
			if len(*list) > 0 && d.IntN(20) == 0 {
				(*list)[d.IntN(len(*list))] = d.odd()
			}
			if d.IntN(40) == 0 {
				*list = append(*list, d.odd())
			}
		}
		for _, list := range []*[]int64{&x.data.Data, &x.start.Data} {
			if d.IntN(30) == 0 {
				*list = (*list)[:d.IntN(len(*list)+1)]
			}
		}
		for _, number := range []*int{&x.plan.Batch, &x.plan.Every, &x.machines} {
			if d.IntN(12) == 0 {
				*number = d.odd()
			}
		}
		if d.IntN(20) == 0 {
			at := d.IntN(len(x.plan.Text))
			x.plan.Text = x.plan.Text[:at] + x.plan.Text[at+1:]
		}
		if d.IntN(30) == 0 {
			x.disk = empty(d.IntN(30))
		}
		want := x.wrongByHand()
		told[want]++
		trainer, err := x.open()
		if err != want || (trainer != nil) != (want == api.OK) {
			t.Fatalf("%s: Open: %d comes, not %d", short(x), err, want)
		}
		if got, want := train.Wrong(x.plan, x.data), x.thing.wrongByHand(); got != want {
			t.Fatalf("%s: Wrong: %d comes, not %d", short(x), got, want)
		}
		if trainer == nil {
			continue
		}
		for range 3 {
			fall := d.odd()
			trainer.Step(l(d.odd(), d.odd()), fall)
			trainer.Weights()
		}
	}
	for _, err := range []api.Errno{api.OK, api.ErrRange, api.ErrMuch, api.ErrShape, api.ErrForm, api.ErrName} {
		if told[err] < 30 {
			t.Errorf("just these came: %v", told)
		}
	}
}

// learned is what trainers tell, on all numbers of machines.
func learned() string {
	d := thrown(36)
	out := ""
	for range 20 {
		c := d.class()
		disk := c.disk()
		for _, machines := range l(2, 1, crowd, 3) {
			x, err := train.Open(c.plan, c.data, c.start, disk, machines)
			out += fmt.Sprint(err)
			for k := range 6 {
				err := x.Step(d.picks(), 5*k-1)
				a, steps, no := x.Weights()
				out += fmt.Sprint(err, a, steps, no, disk.words)
			}
		}
	}
	return out
}

// E1: several trainers do not know of one another.
func TestE1AtTheSameTime(t *testing.T) {
	want := learned()
	got := make([]string, 8)
	var group sync.WaitGroup
	for k := range got {
		group.Go(func() { got[k] = learned() })
	}
	group.Wait()
	for _, s := range got {
		if s != want {
			t.Error("something else comes at the same time")
		}
	}
}

// E1: nothing hangs on how many goroutines run at one time.
func TestE1OneAtATime(t *testing.T) {
	want := learned()
	for _, many := range l(1, 2, 3) {
		was := runtime.GOMAXPROCS(many)
		if learned() != want {
			t.Errorf("something else comes with %d", many)
		}
		runtime.GOMAXPROCS(was)
	}
}

// E1: the machines' goroutines have ended when Step has answered, whatever it answers.
func TestE1Ended(t *testing.T) {
	before := runtime.NumGoroutine()
	c := named(t, "table").taught(thrown(37), 64, 64, 1)
	for _, fall := range l(-1, 0, 100) {
		x := c.open(t, c.disk(), crowd)
		for range 3 {
			x.Step(nil, fall)
		}
	}
	// One that has said that it is done may need a moment yet to be gone.
	for range 100 {
		if runtime.NumGoroutine() <= before {
			return
		}
		time.Sleep(time.Millisecond)
	}
	t.Errorf("there are %d goroutines, not %d", runtime.NumGoroutine(), before)
}
