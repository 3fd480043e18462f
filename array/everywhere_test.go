package array_test

import (
	"fmt"
	"slices"
	"testing"

	"adjoint/api"
	"adjoint/array"
)

// spare is how much room there is behind a list that roomy makes.
const spare = 4

// roomy is a list with room behind it, in which 77 stands.
func roomy[T int | int64](list []T) []T {
	return append(slices.Clone(list), slices.Repeat([]T{77}, spare)...)[:len(list)]
}

// kept tells whether a list that roomy made is as it was, its spare room too.
func kept[T int | int64](list, was []T) bool {
	return slices.Equal(list[:len(was)+spare], roomy(was)[:len(was)+spare])
}

// spoil writes over a list, its spare room too.
func spoil[T int | int64](list []T) {
	list = list[:cap(list)]
	for k := range list {
		list[k] = -99
	}
}

// called is what is handed in: an operation and its arrays.
type called struct {
	op   api.Op
	args []api.Array
}

// roomyCall is a call whose lists have all room behind them.
func roomyCall(c called) called {
	op := c.op
	op.Dims, op.At, op.Lo, op.Hi, op.Step = roomy(op.Dims), roomy(op.At), roomy(op.Lo), roomy(op.Hi), roomy(op.Step)
	out := called{op: op}
	for _, a := range c.args {
		out.args = append(out.args, api.Array{Dims: roomy(a.Dims), Data: roomy(a.Data)})
	}
	return out
}

// keptCall tells whether a call that roomyCall made is as it was.
func keptCall(c, was called) bool {
	same := kept(c.op.Dims, was.op.Dims) && kept(c.op.At, was.op.At) &&
		kept(c.op.Lo, was.op.Lo) && kept(c.op.Hi, was.op.Hi) && kept(c.op.Step, was.op.Step)
	for i, a := range c.args {
		same = same && kept(a.Dims, was.args[i].Dims) && kept(a.Data, was.args[i].Data)
	}
	return same
}

// spoilCall writes over all that was handed in.
func spoilCall(c called) {
	for _, list := range lists(c.op.Dims, c.op.At, c.op.Lo, c.op.Hi, c.op.Step) {
		spoil(list)
	}
	for _, a := range c.args {
		spoil(a.Dims)
		spoil(a.Data)
	}
}

// calls are some of each kind, those that change nothing among them.
func calls() []called {
	a, b := from(1, 2, 3), from(5, 2, 3)
	two := []api.Array{a, b}
	just := []api.Array{a}
	out := []called{
		{api.Op{Kind: api.Fill, Dims: l(2, 3), Value: 4}, nil},
		{api.Op{Kind: api.Pick}, []api.Array{a, b, a}},
		{api.Op{Kind: api.Spread, Dims: l(2, 4, 3), At: l(0, 2)}, just},
		{api.Op{Kind: api.Spread, Dims: l(2, 3), At: l(0, 1)}, just},
		{api.Op{Kind: api.Sum, At: l(1)}, just},
		{api.Op{Kind: api.Sum}, just},
		{api.Op{Kind: api.Turn, At: l(1, 0)}, just},
		{api.Op{Kind: api.Turn, At: l(0, 1)}, just},
		{api.Op{Kind: api.Reform, Dims: l(3, 2)}, just},
		{api.Op{Kind: api.Reform, Dims: l(2, 3)}, just},
		{api.Op{Kind: api.Cut, Lo: l(0, 1), Hi: l(2, 3), Step: l(1, 2)}, just},
		{api.Op{Kind: api.Cut, Lo: l(0, 0), Hi: l(2, 3), Step: l(1, 1)}, just},
		{api.Op{Kind: api.Pad, Lo: l(0, 1), Hi: l(2, 3), Step: l(1, 2)}, just},
		{api.Op{Kind: api.Pad, Lo: l(0, 0), Hi: l(0, 0), Step: l(1, 1)}, just},
		{api.Op{Kind: api.Flip, At: l(1)}, just},
		{api.Op{Kind: api.Flip}, just},
		{api.Op{Kind: api.Dot, At: l(1), Step: l(1), Lo: l(0), Hi: l(0)}, two},
		{api.Op{Kind: api.Dot, Lo: l(0, 1), Hi: l(0, 1)}, two},
		{api.Op{Kind: api.Dot, At: l(1), Step: l(1)}, two},
		{api.Op{Kind: api.Join, At: l(1)}, two},
		{api.Op{Kind: api.Join, At: l(0)}, just},
		{api.Op{Kind: api.Take}, []api.Array{a, of(l(2), 1, 0)}},
		{api.Op{Kind: api.Take}, []api.Array{a, one(0)}},
		{api.Op{Kind: api.Take}, []api.Array{of(l(3), 1, 2, 3), of(l(2), 1, 0)}},
		{api.Op{Kind: api.Put, Dims: l(4)}, []api.Array{a, of(l(2), 1, 3)}},
		{api.Op{Kind: api.Put, Dims: l(4)}, two},
		{api.Op{Kind: api.Put, Dims: l(4)}, []api.Array{a, one(2)}},
	}
	for _, kind := range l(api.Add, api.Sub, api.Mul, api.Max, api.Less) {
		out = append(out, called{api.Op{Kind: kind}, two})
	}
	return out
}

// E2: what is handed in is only read, its spare room too, and shares nothing with what is answered; nothing of it is kept.
func TestE2Do(t *testing.T) {
	for _, c := range calls() {
		given := roomyCall(c)
		got, err := array.Do(given.op, given.args)
		if err != api.OK || !keptCall(given, c) {
			t.Errorf("Do %v: %d, or what was handed in is changed", c, err)
		}
		was := api.Array{Dims: slices.Clone(got.Dims), Data: slices.Clone(got.Data)}
		spoilCall(given)
		if !sameArray(got, was) {
			t.Errorf("Do %v: the answer changes with what was handed in", c)
		}
		given = roomyCall(c)
		got, _ = array.Do(given.op, given.args)
		if !sameArray(got, was) {
			t.Errorf("Do %v: the same call answers otherwise", c)
		}
		spoil(got.Dims)
		spoil(got.Data)
		if !keptCall(given, c) {
			t.Errorf("Do %v: what was handed in changes with the answer", c)
		}
	}
}

func TestE2Dims(t *testing.T) {
	for _, c := range calls() {
		given := roomyCall(c)
		got, err := array.Dims(given.op, dimsOf(given.args))
		weight, weightErr := array.Weight(given.op, dimsOf(given.args))
		if err != api.OK || weightErr != api.OK || weight == 0 || !keptCall(given, c) {
			t.Errorf("Dims and Weight %v: %d, %d, %d, or what was handed in is changed", c, err, weight, weightErr)
		}
		was := slices.Clone(got)
		spoilCall(given)
		if !slices.Equal(got, was) {
			t.Errorf("Dims %v: the answer changes with what was handed in", c)
		}
		given = roomyCall(c)
		got, _ = array.Dims(given.op, dimsOf(given.args))
		spoil(got)
		if !keptCall(given, c) {
			t.Errorf("Dims %v: what was handed in changes with the answer", c)
		}
	}
}

func TestE2PlainSameInner(t *testing.T) {
	for _, kind := range manyKinds() {
		c := called{op: full(kind)}
		given := roomyCall(c)
		got := array.Plain(given.op)
		want := array.Plain(c.op)
		if !array.Same(given.op, given.op) || !keptCall(given, c) {
			t.Errorf("Plain or Same of %v changes it", c.op)
		}
		spoilCall(given)
		if !sameOp(got, want) {
			t.Errorf("Plain of %v changes with what was handed in", c.op)
		}
	}
	// One list in all places: the answer has five.
	shared := l(1, 2, 3)
	for _, kind := range manyKinds() {
		got := array.Plain(api.Op{Kind: kind, Dims: shared, At: shared, Lo: shared, Hi: shared, Step: shared})
		all := lists(got.Dims, got.At, got.Lo, got.Hi, got.Step)
		for i, list := range all {
			spoil(list)
			for _, other := range append(all[i+1:], shared) {
				if len(other) > 0 && !slices.Equal(other, l(1, 2, 3)) {
					t.Errorf("Plain of kind %d: two lists share room", kind)
				}
			}
		}
	}
	a := called{args: []api.Array{from(1, 2, 3), from(2, 2, 3)}}
	given := roomyCall(a)
	n, err := array.Inner(given.args[0], given.args[1])
	if n != 182 || err != api.OK || array.Wrong(given.args[0]) != api.OK || !keptCall(given, a) {
		t.Errorf("Inner: %d, %d, or what was handed in is changed", n, err)
	}
}

// E3: nil and a list without entries are the same.
func TestE3NilAndEmpty(t *testing.T) {
	for _, none := range lists(nil, l(), make([]int, 0, 5)) {
		for _, empty := range [][]int64{nil, {}, make([]int64, 0, 5)} {
			op := func(kind int) api.Op {
				return api.Op{Kind: kind, Dims: none, At: none, Lo: none, Hi: none, Step: none, Value: 6}
			}
			a := api.Array{Dims: none, Data: []int64{6}}
			hollow := api.Array{Dims: l(0), Data: empty}
			for _, kind := range l(api.Spread, api.Sum, api.Turn, api.Reform, api.Cut, api.Pad, api.Flip) {
				makes(t, op(kind), one(6), a)
			}
			makes(t, op(api.Fill), one(6))
			makes(t, op(api.Dot), one(36), a, a)
			makes(t, op(api.Sum), of(l(0)), hollow)
			makes(t, op(api.Dot), of(l(0)), hollow, a)
			makes(t, op(api.Take), of(l(0)), noughts(3), hollow)
			wantDo(t, op(api.Join), api.Array{}, api.ErrShape, hollow)
			wantDo(t, op(api.Put), api.Array{}, api.ErrShape, hollow, hollow)
			if array.Wrong(hollow) != api.OK || array.Wrong(api.Array{Dims: none, Data: empty}) != api.ErrShape {
				t.Error("Wrong of nothing")
			}
			for _, kind := range manyKinds() {
				bare := api.Op{Kind: kind, Value: 6}
				if !array.Same(op(kind), bare) || !array.Same(bare, op(kind)) || !sameOp(array.Plain(op(kind)), array.Plain(bare)) {
					t.Errorf("kind %d: nil and empty are not the same", kind)
				}
			}
		}
	}
	wantDims(t, api.Op{Kind: api.Fill}, [][]int{}, nil, api.OK)
	got, err := array.Do(api.Op{Kind: api.Fill}, []api.Array{})
	if err != api.OK || !sameArray(got, one(0)) {
		t.Errorf("Fill of no arguments: %v, %d", got, err)
	}
}

// E1, E4: whatever is handed in, nothing panics, and with an error there is nothing else.
func TestE1WhateverIsGiven(t *testing.T) {
	odd := lists(nil, l(0), l(1), l(-1), l(4097), l(most), l(least), l(2, 3), l(1, 0), l(0, 0), l(least, most), ones(7), l(0, 1, 2, 3, 4, 5, 6))
	dims := lists(nil, l(0), l(1), l(-1), l(2), l(most), l(2, 3), l(0, 4096), ones(7), l(least, 0))
	for _, kind := range manyKinds() {
		for i, f := range odd {
			for _, g := range odd {
				op := api.Op{Kind: kind, Dims: f, At: g, Lo: f, Hi: g, Step: odd[(i+1)%len(odd)]}
				for n := range 4 {
					for _, args := range argLists(n, dims) {
						tryAll(t, op, args)
					}
				}
			}
		}
	}
}

func tryAll(t *testing.T, op api.Op, args [][]int) {
	var given []api.Array
	for i, d := range args {
		given = append(given, api.Array{Dims: d, Data: make([]int64, (len(d)+i)%3)})
	}
	got, err := array.Dims(op, args)
	weight, weightErr := array.Weight(op, args)
	made, madeErr := array.Do(op, given)
	if weightErr != err || err != api.OK && (len(got) > 0 || weight != 0) {
		t.Fatalf("%s: Dims %v, %d, Weight %d, %d", fmt.Sprint(op, args), got, err, weight, weightErr)
	}
	if madeErr != api.OK && !sameArray(made, api.Array{}) || madeErr == api.OK && array.Wrong(made) != api.OK {
		t.Fatalf("%s: Do %v, %d", fmt.Sprint(op, args), made, madeErr)
	}
	if len(given) > 1 {
		if n, err := array.Inner(given[0], given[1]); err != api.OK && n != 0 {
			t.Fatalf("Inner of %v: %d, %d", given, n, err)
		}
	}
}
