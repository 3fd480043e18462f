package sense_test

import (
	"fmt"
	"slices"
	"strings"
	"testing"

	"adjoint/api"
	"adjoint/array"
	"adjoint/sense"
)

// said is a value of which is known how it came, and its dimensions.
type said struct {
	text string
	dims []int
}

// saying are values of that kind; each operation that is made is told to log.
func saying(log *[]string) sense.Values[said] {
	names := []string{api.Fill: "fill", api.Add: "add", api.Sub: "sub", api.Mul: "mul", api.Max: "max", api.Less: "less", api.Pick: "pick",
		api.Spread: "spread", api.Sum: "sum", api.Turn: "turn", api.Reform: "reform", api.Cut: "cut", api.Pad: "pad", api.Flip: "flip",
		api.Dot: "dot", api.Join: "join", api.Take: "take", api.Put: "put"}
	return sense.Values[said]{
		Wrong: func(said) api.Errno { return api.OK },
		Dims:  func(v said) []int { return v.dims },
		Do: func(op api.Op, args []said) (said, api.Errno) {
			var dims [][]int
			var from []string
			for _, v := range args {
				dims, from = append(dims, v.dims), append(from, v.text)
			}
			made, err := array.Dims(op, dims)
			text := fmt.Sprintf("%s(%s)", names[op.Kind], strings.Join(from, " "))
			if op.Kind == api.Fill {
				text = fmt.Sprint(op.Value)
			}
			*log = append(*log, text)
			return said{text, made}, err
		},
	}
}

// Which operations are made, in which order, on what: of x and y without dimensions, and v and w with some.
func TestS4OperationsInTheirOrder(t *testing.T) {
	for _, c := range []struct{ expr, worth, made string }{
		{"x", "x", ""},
		{"5", "5", "5"},
		{"x + y", "add(x y)", "add(x y)"},
		{"1 + 2", "add(1 2)", "1; 2; add(1 2)"},
		{"x - y + x", "add(sub(x y) x)", "sub(x y); add(sub(x y) x)"},
		{"x - y * x", "sub(x mul(y x))", "mul(y x); sub(x mul(y x))"},
		{"v * w", "mul(v w)", "mul(v w)"},
		{"v * x", "mul(v spread(x))", "spread(x); mul(v spread(x))"},
		{"x * v", "mul(spread(x) v)", "spread(x); mul(spread(x) v)"},
		{"max(1, v)", "max(spread(1) v)", "1; spread(1); max(spread(1) v)"},
		{"less(v, 1)", "less(v spread(1))", "1; spread(1); less(v spread(1))"},
		{"pick(x, y, 1)", "pick(x y 1)", "1; pick(x y 1)"},
		{"pick(x, v, y)", "pick(spread(x) v spread(y))", "spread(x); spread(y); pick(spread(x) v spread(y))"},
		{"pick(1, 2, v)", "pick(spread(1) spread(2) v)", "1; 2; spread(1); spread(2); pick(spread(1) spread(2) v)"},
		{"pick(v, w, 2)", "pick(v w spread(2))", "2; spread(2); pick(v w spread(2))"},
		{"pick(v - x, w, w)", "pick(sub(v spread(x)) w w)", "spread(x); sub(v spread(x)); pick(sub(v spread(x)) w w)"},
		{"sum{0}(v * v)", "sum(mul(v v))", "mul(v v); sum(mul(v v))"},
		{"join{0}(v, flip{0}(w), turn{0}(v))", "join(v flip(w) turn(v))", "flip(w); turn(v); join(v flip(w) turn(v))"},
		{"take(v, x + 1)", "take(v add(x 1))", "1; add(x 1); take(v add(x 1))"},
		{"let a = x + y in a * a", "mul(add(x y) add(x y))", "add(x y); mul(add(x y) add(x y))"},
		{"let a = x + y in y", "y", "add(x y)"},
		{"repeat 2 a = x + y with a * x", "mul(mul(add(x y) x) x)", "add(x y); mul(add(x y) x); mul(mul(add(x y) x) x)"},
		{"repeat 0 a = x + y with a * x", "add(x y)", "add(x y)"},
		{"g(x + x, 3)", "sub(3 add(x x))", "add(x x); 3; sub(3 add(x x))"},
		{"h(g(x, y), v)", "sub(v spread(sub(y x)))", "sub(y x); spread(sub(y x)); sub(v spread(sub(y x)))"},
		{"reform[3 n](spread[n 3]{0}(v))", "reform(spread(v))", "spread(v); reform(spread(v))"},
		{"put[4](v, w) * dot{}{}(x, y)", "mul(put(v w) spread(dot(x y)))", "put(v w); dot(x y); spread(dot(x y)); mul(put(v w) spread(dot(x y)))"},
		{"cut{0}{1}{1}(pad{1}{0}{1}(v))", "cut(pad(v))", "pad(v); cut(pad(v))"},
	} {
		s := "fn g(a: [], b: []) = b - a; fn h(a: [], b: [m]) = b - a; fn f(x: [], y: [], v: [n], w: [n]) = " + c.expr + ";"
		var log []string
		args := []said{{"x", nil}, {"y", nil}, {"v", l(2)}, {"w", l(2)}}
		got, err := sense.Worth(read(t, s), "f", args, saying(&log))
		if err != api.OK || got.text != c.worth || strings.Join(log, "; ") != c.made {
			t.Errorf("%s: %s, %d comes of %s, not %s of %s", c.expr, got.text, err, strings.Join(log, "; "), c.worth, c.made)
		}
	}
}

// Where something is wrong, what stands behind it is not made.
func TestS4NothingIsMadeBehindAnError(t *testing.T) {
	var log []string
	args := []said{{"x", nil}, {"v", l(2)}}
	p := read(t, "fn f(x: [], v: [n]) = (x + 1) * sum{1}(v) - (v + 2);")
	got, err := sense.Worth(p, "f", args, saying(&log))
	if err != api.ErrShape || got.text != "" || got.dims != nil || strings.Join(log, "; ") != "1; add(x 1); sum(v)" {
		t.Errorf("%v, %d comes of %v", got, err, log)
	}
	log = nil
	p = read(t, "fn f(x: []) = (repeat 64 y = x with repeat 63 z = y with z) + (let a = 1 in x);")
	if _, err = sense.Worth(p, "f", args[:1], saying(&log)); err != api.ErrMuch || len(log) > 0 {
		t.Errorf("%d comes of %v", err, log)
	}
}

// An operation has just what the table says: an empty list where none is written.
func TestS1OperationsHaveTheirFields(t *testing.T) {
	var ops []api.Op
	values := saying(new([]string))
	do := values.Do
	values.Do = func(op api.Op, args []said) (said, api.Errno) {
		ops = append(ops, op)
		return do(op, args)
	}
	p := read(t, "fn f(v: [n]) = pad{1}{2}{3}(spread[2 n]{1}(v) + 4 - dot{0}{0}(v, v) * dot{}{}{0}{0}(v, v));")
	sense.Worth(p, "f", []said{{"v", l(5)}}, values)
	want := []api.Op{
		{Kind: api.Spread, Dims: l(2, 5), At: l(1)}, {Kind: api.Fill, Value: 4}, {Kind: api.Spread, Dims: l(2, 5)}, {Kind: api.Add},
		{Kind: api.Dot, At: l(0), Step: l(0)}, {Kind: api.Dot, Lo: l(0), Hi: l(0)}, {Kind: api.Spread, Dims: l(5)}, {Kind: api.Mul}, {Kind: api.Sub},
	}
	if !slices.EqualFunc(ops, want, func(a, b api.Op) bool {
		return a.Kind == b.Kind && a.Value == b.Value && slices.Equal(a.Dims, b.Dims) && slices.Equal(a.At, b.At) &&
			slices.Equal(a.Lo, b.Lo) && slices.Equal(a.Hi, b.Hi) && slices.Equal(a.Step, b.Step)
	}) {
		t.Errorf("%+v comes, not %+v", ops, want)
	}
}
