package train_test

import (
	"strings"
	"testing"

	"adjoint/api"
	"adjoint/train"
)

const texts = `
fn loss(w: [2], x: [2]) = let d = dot{0}{0}(w, x) - 1 in d * d;
fn named(w: [n], x: [n]) = sum{0}(w * x);
fn wide(w: [2], x: [2]) = w * x;
fn one(w: [2], x: [2]) = spread[1]{}(sum{0}(w * x));
fn none(w: [2], x: [2]) = cut{0}{0}{1}(w);
fn few(w: [2]) = sum{0}(w);
fn many(w: [2], x: [2], y: [2]) = sum{0}(w * x + y);
fn other(w: [3], x: [2]) = sum{0}(w) * sum{0}(x);
fn bad(w: [2], x: [2]) = dot{0}{1}(w, x);
fn turns(w: [2], x: [2]) = repeat 64 y = w * x with y * y + x;
fn longer(w: [2], x: [2]) = turns(turns(w, x), x);
fn long(w: [2], x: [2]) = sum{0}(longer(w, x));
fn turned(w: [2], x: [2]) = sum{0}(turns(w, x));
fn huge(w: [2], x: [2]) = repeat 64 z = 0 with (repeat 64 y = z with y + 1);
fn much(w: [4096 16], x: [2]) = sum{0 1}(w) + sum{0}(x);
`

// thing is a plan with data.
type thing struct {
	plan api.Plan
	data api.Array
}

// right is a plan and data of which nothing is wrong.
func right() thing {
	p := api.Plan{Text: texts, Loss: "loss", Dims: l(2), Row: l(2), Batch: 2, Rate: 3, Keep: 2, Every: 1, Seed: "s"}
	return thing{p, of(l(4, 2), 1, 2, 3, 4, 5, 6, 7, 8)}
}

// fault is something that is wrong.
type fault struct {
	name  string
	at    int    // those with lower numbers come first
	field string // what is changed
	want  api.Errno
	make  func(x *thing)
}

// faults are all things that can be wrong with a plan and its data, in the order in which they are told.
func faults() []fault {
	program := func(text string) func(x *thing) { return func(x *thing) { x.plan.Text = text } }
	loss := func(name string) func(x *thing) { return func(x *thing) { x.plan.Loss = name } }
	dims := func(loss string, dims, row []int) func(x *thing) {
		return func(x *thing) { x.plan.Loss, x.plan.Dims, x.plan.Row = loss, dims, row }
	}
	data := func(dims []int, words int) func(x *thing) {
		return func(x *thing) { x.data = of(dims, make([]int64, words)...) }
	}
	batch := func(many int) func(x *thing) { return func(x *thing) { x.plan.Batch = many } }
	every := func(many int) func(x *thing) { return func(x *thing) { x.plan.Every = many } }
	return []fault{
		{"a text that ends early", 0, "text", api.ErrForm, program("fn")},
		{"a number that is too great", 0, "text", api.ErrRange, program("fn loss(w: [2], x: [2]) = 9223372036854775808;")},
		{"a text that is too long", 0, "text", api.ErrMuch, program(strings.Repeat(" ", api.MaxText+1))},
		{"no text", 1, "text", api.ErrName, program("")},
		{"names that stand for nothing", 1, "text", api.ErrName, program("fn loss(w: [2], x: [2]) = y;")},
		{"another function that is wrong", 1, "text", api.ErrMany, program(texts + "fn last() = sum{0}();")},
		{"no such loss", 1, "loss", api.ErrName, loss("lost")},
		{"no name", 1, "loss", api.ErrName, loss("")},
		{"one of the language's own", 1, "loss", api.ErrName, loss("sum")},
		{"a loss of one", 1, "loss", api.ErrMany, loss("few")},
		{"a loss of three", 1, "loss", api.ErrMany, loss("many")},
		{"a loss of other weights", 1, "loss", api.ErrShape, loss("other")},
		{"a loss that does not fit itself", 1, "loss", api.ErrShape, loss("bad")},
		{"a loss that takes too long", 1, "loss", api.ErrMuch, loss("huge")},
		{"weights of other dimensions", 1, "loss", api.ErrShape, dims("loss", l(3), l(2))},
		{"a row of other dimensions", 1, "loss", api.ErrShape, dims("loss", l(2), l(2, 2))},
		{"a row of other names", 1, "loss", api.ErrShape, dims("named", l(2), l(3))},
		{"weights below 0", 1, "loss", api.ErrRange, dims("named", l(-1), l(-1))},
		{"weights that are too great", 1, "loss", api.ErrRange, dims("named", l(4097), l(4097))},
		{"weights with too many dimensions", 1, "loss", api.ErrRank, dims("loss", l(1, 1, 1, 1, 1, 1, 1), l(2))},
		{"weights that are too many", 1, "loss", api.ErrMuch, dims("much", l(4096, 17), l(2))},
		{"a row with too many dimensions", 1, "loss", api.ErrRank, dims("loss", l(2), l(1, 1, 1, 1, 1, 1, 1))},
		{"a loss that gives two numbers", 2, "loss", api.ErrShape, loss("wide")},
		{"a loss that gives a list of one", 2, "loss", api.ErrShape, loss("one")},
		{"a loss that gives a list of none", 2, "loss", api.ErrShape, loss("none")},
		{"a loss that gives a list, and of which Reverse would say something", 2, "loss", api.ErrShape, loss("longer")},
		{"a loss of which Reverse says something", 3, "loss", api.ErrMuch, loss("long")},
		{"too many dimensions", 4, "data", api.ErrRank, data(l(4, 2, 1, 1, 1, 1, 1), 8)},
		{"too many rows", 4, "data", api.ErrRange, data(l(4097, 2), 8194)},
		{"rows below 0", 4, "data", api.ErrRange, data(l(-4, 2), 8)},
		{"too many numbers", 4, "data", api.ErrMuch, data(l(4096, 17), 4096*17)},
		{"a number too few", 4, "data", api.ErrShape, data(l(4, 2), 7)},
		{"a number too many", 4, "data", api.ErrShape, data(l(4, 2), 9)},
		{"no dimension", 5, "data", api.ErrShape, data(nil, 1)},
		{"rows alone", 5, "data", api.ErrShape, data(l(8), 8)},
		{"rows of another size", 5, "data", api.ErrShape, data(l(2, 4), 8)},
		{"rows of other dimensions", 5, "data", api.ErrShape, data(l(4, 2, 1), 8)},
		{"other rows, and none of them", 5, "data", api.ErrShape, data(l(0, 3), 0)},
		{"no rows", 6, "data", api.ErrRange, data(l(0, 2), 0)},
		{"a batch that does not divide them", 7, "batch", api.ErrRange, batch(3)},
		{"a batch of more rows than there are", 7, "batch", api.ErrRange, batch(5)},
		{"a batch of twice the rows", 7, "batch", api.ErrRange, batch(8)},
		{"a batch that is very great", 7, "batch", api.ErrRange, batch(most)},
		{"a batch of none", 7, "batch", api.ErrRange, batch(0)},
		{"a batch below 0", 7, "batch", api.ErrRange, batch(-1)},
		{"a batch below 0 that would divide", 7, "batch", api.ErrRange, batch(-2)},
		{"a batch far below 0", 7, "batch", api.ErrRange, batch(least)},
		{"saved never", 8, "every", api.ErrRange, every(0)},
		{"saved every -1", 8, "every", api.ErrRange, every(-1)},
		{"saved far below 0", 8, "every", api.ErrRange, every(least)},
	}
}

// wantWrong: this is wrong with a thing; so it is for Open.
func wantWrong(t *testing.T, name string, x thing, want api.Errno) {
	t.Helper()
	if err := train.Wrong(x.plan, x.data); err != want {
		t.Errorf("%s: %d comes, not %d", name, err, want)
	}
	d := empty(10)
	got, err := train.Open(x.plan, x.data, of(l(2), 1, -1), d, 1)
	if err != want || (got != nil) != (want == api.OK) {
		t.Errorf("%s: Open: %d comes, not %d", name, err, want)
	}
	wantPuts(t, d)
}

// W1: of what nothing is wrong.
func TestW1Right(t *testing.T) {
	wantWrong(t, "right", right(), api.OK)
	for _, change := range []func(x *thing){
		func(x *thing) { x.plan.Loss = "named" },
		func(x *thing) { x.plan.Loss = "turned" },
		func(x *thing) { x.plan.Batch = 1 },
		func(x *thing) { x.plan.Batch = 4 },
		func(x *thing) { x.plan.Every = most },
		func(x *thing) { x.plan.Every = 7 },
		func(x *thing) { x.plan.Seed = "" },
		func(x *thing) { x.plan.Seed = strings.Repeat("\xff", 1000) },
		func(x *thing) { x.plan.Rate, x.plan.Keep = -1<<63, 1<<63-1 },
		func(x *thing) { x.plan.Rate, x.plan.Keep = 0, 0 },
		func(x *thing) { x.data, x.plan.Batch = of(l(1, 2), 1, 2), 1 },
		func(x *thing) { x.data, x.plan.Batch = of(l(4096, 2), make([]int64, 8192)...), 4096 },
		func(x *thing) { x.plan.Text = "fn loss(w: [n], x: [m]) = 5;" },
		func(x *thing) { x.plan.Text = texts + strings.Repeat(" ", api.MaxText-len(texts)) },
	} {
		x := right()
		change(&x)
		wantWrong(t, short(x.plan.Loss, x.plan.Batch, x.plan.Every, x.data.Dims), x, api.OK)
	}
	for _, x := range lessons() {
		c := x.taught(thrown(1), 6, 2, 1)
		if err := train.Wrong(c.plan, c.data); err != api.OK {
			t.Errorf("%s: %d comes", x.name, err)
		}
	}
	// Weights as many, and rows with as many dimensions, as there may be.
	p := api.Plan{Text: "fn f(w: [a b], x: [1 1 1 1 1]) = sum{0 1}(w);", Loss: "f", Dims: l(4096, 16), Row: l(1, 1, 1, 1, 1), Batch: 1, Every: 1}
	if err := train.Wrong(p, of(l(1, 1, 1, 1, 1, 1), 7)); err != api.OK {
		t.Errorf("%d comes", err)
	}
	// A row may have more dimensions than one of data can.
	p.Row, p.Text = append(p.Row, 1), "fn f(w: [a b], x: [1 1 1 1 1 1]) = sum{0 1}(w);"
	if err := train.Wrong(p, of(append(l(1), p.Row...), 7)); err != api.ErrRank {
		t.Errorf("%d comes", err)
	}
}

// W1: each thing that is wrong, one by one.
func TestW1EachFault(t *testing.T) {
	for _, f := range faults() {
		x := right()
		f.make(&x)
		wantWrong(t, f.name, x, f.want)
	}
}

// W1: of two things that are wrong the one that comes first.
func TestW1WhichComesFirst(t *testing.T) {
	pairs := 0
	for _, first := range faults() {
		for _, second := range faults() {
			if first.at >= second.at || first.field == second.field {
				continue
			}
			x := right()
			second.make(&x)
			first.make(&x)
			pairs++
			wantWrong(t, first.name+", "+second.name, x, first.want)
		}
	}
	if pairs < 500 {
		t.Errorf("there were just %d pairs", pairs)
	}
}

// W1: the errors that differ, side by side.
func TestW1Order(t *testing.T) {
	x := right()
	x.plan = api.Plan{Text: "fn", Loss: "lost", Dims: l(-1), Row: l(7), Batch: 0, Every: 0}
	x.data = of(l(1, 1, 1, 1, 1, 1, 1), 1, 2)
	wantWrong(t, "all is wrong", x, api.ErrForm)
	x.plan.Text = texts
	wantWrong(t, "no such loss", x, api.ErrName)
	x.plan.Loss = "loss"
	wantWrong(t, "weights below 0", x, api.ErrRange)
	x.plan.Dims, x.plan.Row = l(2), l(2)
	x.plan.Loss = "longer"
	wantWrong(t, "it gives a list, and Reverse would say something", x, api.ErrShape)
	x.plan.Loss = "long"
	wantWrong(t, "Reverse says something", x, api.ErrMuch)
	x.plan.Loss = "loss"
	wantWrong(t, "too many dimensions", x, api.ErrRank)
	x.data.Dims = l(0, 3)
	wantWrong(t, "too many numbers", x, api.ErrShape)
	x.data.Data = nil
	wantWrong(t, "other dimensions", x, api.ErrShape)
	x.data.Dims = l(0, 2)
	wantWrong(t, "no rows", x, api.ErrRange)
	x.data = right().data
	wantWrong(t, "no batch", x, api.ErrRange)
	x.plan.Batch = 2
	wantWrong(t, "never", x, api.ErrRange)
	x.plan.Every = 1
	wantWrong(t, "nothing", x, api.OK)
}
