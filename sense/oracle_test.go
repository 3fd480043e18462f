package sense_test

import (
	"fmt"
	"math/rand/v2"
	"slices"
	"strings"
	"testing"

	"adjoint/api"
	"adjoint/array"
	"adjoint/sense"
	"adjoint/text"
)

// bound is what a name stands for, and what others stand for outside: a list that is never changed, so that nothing has to be put back.
type bound struct {
	name    string
	value   api.Array
	outside *bound
}

func (b *bound) find(name string) (api.Array, bool) {
	for ; b != nil; b = b.outside {
		if b.name == name {
			return b.value, true
		}
	}
	return api.Array{}, false
}

// allWrong are all things that are wrong with a program that can be written, in the order of S2.
func allWrong(p []api.Func) []api.Errno {
	var all []api.Errno
	for i, f := range p {
		isOwn := slices.ContainsFunc(ownRows(), func(r ownRow) bool { return r.name == f.Name })
		if isOwn || slices.ContainsFunc(p[:i], func(g api.Func) bool { return g.Name == f.Name }) {
			all = append(all, api.ErrName)
		}
		var stand *bound
		for _, g := range f.Given {
			if _, taken := stand.find(g.Name); taken {
				all = append(all, api.ErrName)
			}
			stand = &bound{name: g.Name, outside: stand}
		}
		all = append(all, treeWrong(p, i, f.Body, stand)...)
	}
	return all
}

// treeWrong are all things that are wrong with a tree in the body of function at.
func treeWrong(p []api.Func, at int, t api.Tree, stand *bound) []api.Errno {
	var all []api.Errno
	if _, ok := stand.find(t.Name); t.Kind == api.TreeName && !ok {
		all = append(all, api.ErrName)
	}
	if t.Kind == api.TreeCall {
		all = append(all, callWrong(p, at, t)...)
	}
	for k, kid := range t.Kids {
		within := stand
		if k == 1 && (t.Kind == api.TreeLet || t.Kind == api.TreeRepeat) {
			within = &bound{name: t.Name, outside: stand}
		}
		all = append(all, treeWrong(p, at, kid, within)...)
	}
	return all
}

func callWrong(p []api.Func, at int, t api.Tree) []api.Errno {
	var all []api.Errno
	for _, r := range ownRows() {
		if r.name != t.Name {
			continue
		}
		if err := r.wanted(t.Shaped, len(t.Lists), len(t.Kids)); err != api.OK {
			all = append(all, err)
		}
		for _, d := range t.Shape {
			known := d.Name == ""
			for _, g := range p[at].Given {
				known = known || slices.Contains(g.Dims, d)
			}
			if !known {
				all = append(all, api.ErrName)
			}
		}
		return all
	}
	for _, g := range p[:at] {
		if g.Name != t.Name {
			continue
		}
		if t.Shaped || len(t.Lists) > 0 {
			all = append(all, api.ErrForm)
		}
		if len(t.Kids) != len(g.Given) {
			all = append(all, api.ErrMany)
		}
		return all
	}
	return append(all, api.ErrName)
}

// oracle works a program out by the words of S4; steps are those that were made.
type oracle struct {
	p     []api.Func
	steps int
}

// step makes one; false: it is one too many.
func (o *oracle) step() bool {
	o.steps++
	return o.steps <= 4096
}

func (o *oracle) op(op api.Op, args ...api.Array) (api.Array, api.Errno) {
	if !o.step() {
		return api.Array{}, api.ErrMuch
	}
	return array.Do(op, args)
}

// call is what a function of that name is worth; from outside its arguments may be wrong.
func (o *oracle) call(name string, args []api.Array, outside bool) (api.Array, api.Errno) {
	at := slices.IndexFunc(o.p, func(f api.Func) bool { return f.Name == name })
	if at < 0 {
		return api.Array{}, api.ErrName
	}
	f := o.p[at]
	if len(f.Given) != len(args) {
		return api.Array{}, api.ErrMany
	}
	if !outside && !o.step() {
		return api.Array{}, api.ErrMuch
	}
	var stand *bound
	var names []string
	var sizes []int
	for i, g := range f.Given {
		if err := array.Wrong(args[i]); err != api.OK {
			return api.Array{}, err
		}
		if len(g.Dims) != len(args[i].Dims) {
			return api.Array{}, api.ErrShape
		}
		for k, d := range g.Dims {
			size := args[i].Dims[k]
			if before := slices.Index(names, d.Name); d.Name == "" && d.Size != size || d.Name != "" && before >= 0 && sizes[before] != size {
				return api.Array{}, api.ErrShape
			}
			if d.Name != "" {
				names, sizes = append(names, d.Name), append(sizes, size)
			}
		}
		stand = &bound{g.Name, args[i], stand}
	}
	size := func(d api.Dim) int {
		if d.Name != "" {
			return sizes[slices.Index(names, d.Name)]
		}
		return d.Size
	}
	return o.tree(f.Body, stand, size)
}

func (o *oracle) tree(t api.Tree, stand *bound, size func(api.Dim) int) (api.Array, api.Errno) {
	switch t.Kind {
	case api.TreeNumber:
		return o.op(api.Op{Kind: api.Fill, Value: t.Number})
	case api.TreeName:
		v, _ := stand.find(t.Name)
		return v, api.OK
	case api.TreeLet, api.TreeRepeat:
		turns := int64(1)
		if t.Kind == api.TreeRepeat {
			turns = t.Number
		}
		if turns > 64 {
			return api.Array{}, api.ErrRange
		}
		v, err := o.tree(t.Kids[0], stand, size)
		for ; turns > 0 && err == api.OK; turns-- {
			if t.Kind == api.TreeRepeat && !o.step() {
				return api.Array{}, api.ErrMuch
			}
			v, err = o.tree(t.Kids[1], &bound{t.Name, v, stand}, size)
		}
		return v, err
	}
	var args []api.Array
	for _, kid := range t.Kids {
		v, err := o.tree(kid, stand, size)
		if err != api.OK {
			return api.Array{}, err
		}
		args = append(args, v)
	}
	return o.apply(t, args, size)
}

// apply is what a call or a sign makes of arguments.
func (o *oracle) apply(t api.Tree, args []api.Array, size func(api.Dim) int) (api.Array, api.Errno) {
	var dims []int
	for _, d := range t.Shape {
		dims = append(dims, size(d))
	}
	list := func(k int) []int { return append(t.Lists, nil, nil, nil, nil)[k] }
	switch t.Name {
	case "+", "-", "*", "max", "less", "pick":
		kind := map[string]int{"+": 3, "-": 4, "*": 5, "max": 6, "less": 7, "pick": 8}[t.Name]
		for _, a := range slices.Clone(args) {
			for i := range args {
				if len(a.Dims) == 0 || len(args[i].Dims) > 0 {
					continue
				}
				var err api.Errno
				if args[i], err = o.op(api.Op{Kind: api.Spread, Dims: a.Dims}, args[i]); err != api.OK {
					return api.Array{}, err
				}
			}
		}
		return o.op(api.Op{Kind: kind}, args...)
	case "spread", "sum", "turn", "flip", "join":
		kind := map[string]int{"spread": 9, "sum": 10, "turn": 11, "flip": 15, "join": 17}[t.Name]
		return o.op(api.Op{Kind: kind, Dims: dims, At: list(0)}, args...)
	case "cut", "pad":
		kind := map[string]int{"cut": 13, "pad": 14}[t.Name]
		return o.op(api.Op{Kind: kind, Lo: list(0), Hi: list(1), Step: list(2)}, args...)
	case "reform", "take", "put":
		kind := map[string]int{"reform": 12, "take": 18, "put": 19}[t.Name]
		return o.op(api.Op{Kind: kind, Dims: dims}, args...)
	case "dot":
		return o.op(api.Op{Kind: 16, At: list(0), Step: list(1), Lo: list(2), Hi: list(3)}, args...)
	}
	return o.call(t.Name, args, false)
}

// dice are thrown the same way each time.
type dice struct{ *rand.Rand }

func (d dice) of(all ...string) string { return all[d.IntN(len(all))] }

// body is an expr: names are those that it may use, funcs the functions that it may call; now and then one is wrong.
func (d dice) body(depth int, names, funcs []string) string {
	if depth == 0 || d.IntN(8) == 0 {
		if d.IntN(5) == 0 {
			return d.of("0", "1", "2", "7", "9223372036854775807")
		}
		if d.IntN(150) == 0 {
			return d.of("x", "y", "z", "n", "g0", "sum")
		}
		return d.of(names...)
	}
	sub := func() string { return d.body(depth-1, names, funcs) }
	if d.IntN(150) == 0 {
		return d.of("g0", "g1", "f", "max", "dot", "take") + d.of("", "", "[n]", "{}") + "(" + sub() + ")"
	}
	switch d.IntN(13) {
	case 0, 1, 2:
		return "(" + sub() + d.of(" + ", " - ", " * ") + sub() + ")"
	case 3:
		return d.of("max", "less") + "(" + sub() + ", " + sub() + ")"
	case 4:
		return "pick(" + sub() + ", " + sub() + ", " + sub() + ")"
	case 5, 6:
		name := d.of("x", "y", "z")
		return "(let " + name + " = " + sub() + " in " + d.body(depth-1, append(slices.Clip(names), name, name), funcs) + ")"
	case 7, 12:
		name := d.of("x", "y", "z")
		turns := d.of("0", "1", "2", "3", "20", "64", "64", "64", "65")
		return "(repeat " + turns + " " + name + " = " + sub() + " with " + d.body(depth-1, append(slices.Clip(names), name, name), funcs) + ")"
	case 8, 9:
		if len(funcs) > 0 {
			return d.of(funcs...) + "(" + sub() + ", " + sub() + ")"
		}
	case 10:
		return d.of("sum{}", "sum{0}", "flip{0}", "flip{}", "turn{0}", "turn{}", "reform[n]", "reform[n 1]", "join{0}", "pad{1}{0}{1}", "cut{0}{1}{1}", "spread[n]{}", "spread[n 2]{0}") + "(" + sub() + ")"
	}
	return d.of("dot{0}{0}", "dot{}{}", "dot{}{}{0}{0}", "join{0}", "take", "put[n]", "put[3]") + "(" + sub() + ", " + sub() + ")"
}

// program is one of some functions, each with two parameters.
func (d dice) program() string {
	var lines, funcs []string
	for k := range d.IntN(4) {
		name := fmt.Sprintf("g%d", k)
		if d.IntN(150) == 0 {
			name = d.of("g0", "sum")
		}
		lines = append(lines, d.function(name, funcs))
		funcs = append(funcs, name)
	}
	return strings.Join(append(lines, d.function("f", funcs)), "\n")
}

func (d dice) function(name string, funcs []string) string {
	names := []string{"x", "y"}
	if d.IntN(150) == 0 {
		names = []string{"y", "y"}
	}
	given := []string{"n", "n", "n", "2", "", "m", "n m"}
	return fmt.Sprintf("fn %s(%s: [%s], %s: [%s]) = %s;", name, names[0], d.of("n", "n", "n", "n 2", "n n"), names[1], d.of(given...), d.body(1+d.IntN(5), names, funcs))
}

// Programs of all sorts mean what the words of S2 to S5 say.
func TestS2ToS5ByTheirWords(t *testing.T) {
	d := dice{rand.New(rand.NewPCG(4, 11))}
	seen := map[api.Errno]int{}
	for range 30000 {
		s := d.program()
		p, f := text.Read(s)
		if f.Err != api.OK {
			t.Fatalf("%s can't be read: %v", s, f)
		}
		want := append(allWrong(p), api.OK)[0]
		if got := sense.Wrong(p); got != want {
			t.Fatalf("Wrong of %s: %d comes, not %d", s, got, want)
		}
		if want != api.OK {
			seen[want]++
			continue
		}
		last := p[len(p)-1].Given
		args := arrays(d.array(last[0]), d.array(last[1]))
		o := oracle{p: p}
		wantArray, wantErr := o.call("f", args, true)
		got, err := sense.Run(p, "f", args)
		if err != wantErr || !sameArray(got, wantArray) {
			t.Fatalf("Run of %s with %v: %v, %d comes, not %v, %d", s, args, got, err, wantArray, wantErr)
		}
		if dims, err := sense.Check(p, "f", dimsOf(args)); err != wantErr || !slices.Equal(dims, wantArray.Dims) {
			t.Fatalf("Check of %s with %v: %v, %d comes, not %v, %d", s, args, dims, err, wantArray.Dims, wantErr)
		}
		seen[wantErr]++
	}
	for _, err := range []api.Errno{api.OK, api.ErrShape, api.ErrRange, api.ErrMuch, api.ErrName, api.ErrForm, api.ErrMany} {
		if seen[err] < 20 {
			t.Errorf("%d was told %d times alone: %v", err, seen[err], seen)
		}
	}
}

// array is one that mostly fits.
func (d dice) array(g api.Given) api.Array {
	var dims []int
	for _, dim := range g.Dims {
		size := 2
		if dim.Name == "m" || d.IntN(30) == 0 {
			size = d.IntN(4)
		}
		dims = append(dims, size)
	}
	a := from(dims...)
	for i := range a.Data {
		a.Data[i] = d.Int64N(9) - 4
	}
	return a
}
