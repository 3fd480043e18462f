package text_test

import (
	"math"
	"slices"
	"strings"
	"testing"

	"adjoint/api"
	"adjoint/text"
)

// whole is a program with every kind of tree, and lists in every place.
const whole = "fn f(x: [n 4], y: [], z: [n]) = let a = sum{0 1 2}(x * 2 - y, z) in repeat 3 b = a with g[2 n 7]{}{1}{4 5 6}(b, (b - y), 1);" +
	"fn g(x: [n 3]) = x * (x + h[]{}(1, 2)); fn h() = 2;"

// spare writes into the room behind every list of a program, and of all within.
func spare(p []api.Func) {
	fill(p, api.Func{Name: "bad"})
	for _, f := range p {
		fill(f.Given, api.Given{Name: "bad"})
		for _, g := range f.Given {
			fill(g.Dims, api.Dim{Size: -7})
		}
		spareTree(f.Body)
	}
}

func spareTree(t api.Tree) {
	fill(t.Shape, api.Dim{Size: -7})
	fill(t.Lists, []int{-7})
	for _, list := range t.Lists {
		fill(list, -7)
	}
	fill(t.Kids, api.Tree{Kind: -7})
	for _, kid := range t.Kids {
		spareTree(kid)
	}
}

// fill writes into the room behind a list.
func fill[T any](list []T, with T) {
	room := list[len(list):cap(list)]
	for i := range room {
		room[i] = with
	}
}

// roomy is a list with room behind it.
func roomy[T any](list []T, with T) []T {
	out := append(slices.Clone(list), with, with, with)[:len(list)]
	fill(out, with)
	return out
}

// roomyProgram is a program of which every list has room behind it, in which something stands.
func roomyProgram(p []api.Func) []api.Func {
	out := roomy(p, api.Func{Name: "bad"})
	for i, f := range out {
		out[i].Given = roomy(f.Given, api.Given{Name: "bad"})
		for k, g := range out[i].Given {
			out[i].Given[k].Dims = roomy(g.Dims, api.Dim{Size: -7})
		}
		out[i].Body = roomyTree(f.Body)
	}
	return out
}

func roomyTree(t api.Tree) api.Tree {
	t.Shape = roomy(t.Shape, api.Dim{Size: -7})
	t.Lists = roomy(t.Lists, []int{-7})
	for i, list := range t.Lists {
		t.Lists[i] = roomy(list, -7)
	}
	t.Kids = roomy(t.Kids, api.Tree{Kind: -7})
	for i, kid := range t.Kids {
		t.Kids[i] = roomyTree(kid)
	}
	return t
}

// all shows a program with the room behind each of its lists.
func all(p []api.Func) string {
	out := show(p[:cap(p)])
	for _, f := range p {
		out += show(f.Given[:cap(f.Given)])
		for _, g := range f.Given {
			out += show(g.Dims[:cap(g.Dims)])
		}
		out += allTree(f.Body)
	}
	return out
}

func allTree(t api.Tree) string {
	out := show(t.Shape[:cap(t.Shape)]) + show(t.Lists[:cap(t.Lists)]) + show(t.Kids[:cap(t.Kids)])
	for _, list := range t.Lists {
		out += show(list[:cap(list)])
	}
	for _, kid := range t.Kids {
		out += allTree(kid)
	}
	return out
}

// E2: what is answered is the caller's, the room behind each list too, and no two lists share any.
func TestE2Answers(t *testing.T) {
	p, _ := text.Read(whole)
	was := show(p)
	again, _ := text.Read(whole)
	spare(p)
	if show(p) != was || !strings.Contains(was, "Name:h") {
		t.Errorf("two lists share room: %s comes, not %s", show(p), was)
	}
	ruin(p)
	if show(p) == was || show(again) != was {
		t.Errorf("two answers share room")
	}
	if third, _ := text.Read(whole); show(third) != was {
		t.Errorf("the same text is read otherwise")
	}
	tokens, _ := text.Tokens(whole)
	others, _ := text.Tokens(whole)
	wanted := show(others)
	fill(tokens, api.Token{Text: "bad"})
	for i := range tokens {
		tokens[i] = api.Token{}
	}
	if show(others) != wanted {
		t.Error("two answers share tokens")
	}
}

// ruin writes over all lists of a program.
func ruin(p []api.Func) {
	for _, f := range p {
		for k, g := range f.Given {
			for i := range g.Dims {
				g.Dims[i] = api.Dim{}
			}
			f.Given[k] = api.Given{}
		}
		ruinTree(f.Body)
	}
	for i := range p {
		p[i] = api.Func{}
	}
}

func ruinTree(t api.Tree) {
	for i := range t.Shape {
		t.Shape[i] = api.Dim{}
	}
	for _, list := range t.Lists {
		for i := range list {
			list[i] = -1
		}
	}
	for i, kid := range t.Kids {
		ruinTree(kid)
		t.Kids[i] = api.Tree{}
	}
}

// E2: what is handed in is only read, the room behind it too.
func TestE2HandedIn(t *testing.T) {
	plain, _ := text.Read(whole)
	want, _ := text.Print(plain)
	p := roomyProgram(plain)
	was := all(p)
	got, err := text.Print(p)
	if err != api.OK || got != want || all(p) != was {
		t.Errorf("Print: %q, %d comes, or what was handed in is changed", got, err)
	}
	ruin(p)
	if got != want || want == "" {
		t.Errorf("what was printed changes with what was handed in: %q", got)
	}
	for _, bad := range []api.Tree{num(-1), signs("+", 65), deep(64, num(1), around()[0])} {
		p = roomyProgram(append(slices.Clone(plain), fn("g", bad)))
		was = all(p)
		if got, err := text.Print(p); err == api.OK || got != "" || all(p) != was {
			t.Errorf("Print of %s: %q, %d, or what was handed in is changed", show(bad), got, err)
		}
	}
	// One tree in many places is written in each of them.
	one := two("+", num(1), num(2))
	kids := []api.Tree{one, one}
	wantExpr(t, two("*", call("f", kids...), call("g", kids...)), "f(1 + 2, 1 + 2) * g(1 + 2, 1 + 2)")
}

// E3: nil and a list without entries are the same.
func TestE3NilAndEmpty(t *testing.T) {
	dims, lists, kids := make([]api.Dim, 0, 3), make([][]int, 0, 3), make([]api.Tree, 0, 3)
	hollow := func(t api.Tree) api.Tree {
		t.Shape = dims
		t.Lists = append(lists, t.Lists...)
		t.Kids = append(kids, t.Kids...)
		return t
	}
	x := hollow(name("x"))
	wantPrint(t, []api.Func{}, "")
	wantPrint(t, []api.Func{{Name: "f", Given: []api.Given{}, Body: hollow(num(1))}}, "fn f() = 1;\n")
	wantPrint(t, []api.Func{{Name: "f", Given: []api.Given{{Name: "x", Dims: dims}}, Body: x}}, "fn f(x: []) = x;\n")
	wantExpr(t, hollow(call("f")), "f()")
	wantExpr(t, hollow(two("-", x, x)), "x - x")
	wantExpr(t, hollow(let("a", x, x)), "let a = x in x")
	wantExpr(t, hollow(repeat(2, "a", x, x)), "repeat 2 a = x with x")
	wantExpr(t, shaped(call("f", x), dims...), "f[](x)")
	wantExpr(t, listed(call("f", x), nil, []int{}, make([]int, 0, 3)), "f{}{}{}(x)")
}

// tryText: whatever is read, nothing panics, and beside a fault there is nothing.
func tryText(t *testing.T, s string) {
	t.Helper()
	tokens, f := text.Tokens(s)
	p, g := text.Read(s)
	if f.Err != api.OK && (len(tokens) > 0 || g != f) || g.Err != api.OK && len(p) > 0 {
		t.Fatalf("%q: %d tokens, %v; %d functions, %v", s, len(tokens), f, len(p), g)
	}
	for _, x := range []api.Fault{f, g} {
		if x.At < 0 || x.At > len(s) || x.Err == api.OK && x.At != 0 || !slices.Contains([]api.Errno{api.OK, api.ErrForm, api.ErrRange, api.ErrMuch}, x.Err) {
			t.Fatalf("%q: %v", s, x)
		}
	}
	if g.Err != api.OK {
		return
	}
	printed, err := text.Print(p)
	if again, g := text.Read(printed); err != api.OK || g.Err != api.OK || show(again) != show(p) {
		t.Fatalf("%q: %q, %d, %v", s, printed, err, g)
	}
}

func TestE1WhateverIsRead(t *testing.T) {
	for i := range len(whole) {
		tryText(t, whole[:i])
		tryText(t, whole[i:])
		tryText(t, whole[:i]+whole[i+1:])
		for _, c := range []string{"\x00", "\xff", "#", "\n", "0", "x", "(", ")", ";", " let ", " fn "} {
			tryText(t, whole[:i]+c+whole[i:])
			tryText(t, whole[:i]+c+whole[i+1:])
		}
	}
	d := dice(4)
	pieces := strings.Fields("fn let in repeat with x f 0 7 007 9223372036854775808 ( ) [ ] { } , : = + - * ; # ? ( ) x 1 +")
	for range 5000 {
		var s string
		for range d.below(30) {
			s += pieces[d.below(len(pieces))] + []string{"", " ", "\n"}[d.below(3)]
		}
		tryText(t, s)
		tryText(t, "fn f() = "+s)
	}
}

// odd is a tree with odd things in all places.
func (d *dice) odd(high int) api.Tree {
	names := []string{"", "x", "+", "*", "let", "1", "\xff"}
	t := api.Tree{Kind: d.below(9) - 1, Name: names[d.below(len(names))], Number: []int64{0, 1, -1, math.MaxInt64, math.MinInt64}[d.below(5)], Shaped: d.below(2) == 0}
	for range d.below(3) {
		t.Shape = append(t.Shape, api.Dim{Name: names[d.below(3)], Size: d.below(3) - 1})
	}
	for range d.below(3) {
		t.Lists = append(t.Lists, []int{d.below(3) - 1})
	}
	for range d.below(4) {
		if high > 0 {
			t.Kids = append(t.Kids, d.odd(high-1))
		}
	}
	return t
}

func TestE1WhateverIsPrinted(t *testing.T) {
	d := dice(5)
	for range 20000 {
		body := d.odd(3)
		if d.below(3) == 0 {
			// Most odd trees have several faults: of these only few can have one.
			body = d.tree(4)
			body.Name = []string{"x", "+", "", "with"}[d.below(4)]
		}
		p := only(body)
		printed, err := text.Print(p)
		again, f := text.Read(printed)
		if err != api.OK && (printed != "" || err != api.ErrForm) || err == api.OK && (f != (api.Fault{}) || show(again) != show(p)) {
			t.Fatalf("Print of %s: %q, %d, %v", show(p), printed, err, f)
		}
	}
}

// Lists of kids that are shared make few trees stand for many, or for one that has no end: Print ends all the same.
func TestE1SharedKids(t *testing.T) {
	twice := func(t api.Tree) api.Tree { return two("*", t, t) }
	both := func(t api.Tree) api.Tree { return call("f", t, t, t) }
	round := make([]api.Tree, 2)
	round[0], round[1] = call("f", round...), num(1)
	badRound := make([]api.Tree, 2)
	badRound[0], badRound[1] = two("+", badRound[0], num(1)), num(-1)
	badRound[0].Kids = badRound
	for i, c := range []struct {
		body api.Tree
		want api.Errno
	}{
		{deep(60, num(1), twice), api.ErrMuch},
		{deep(60, num(-1), twice), api.ErrForm},
		{deep(60, num(1), both), api.ErrMuch},
		{deep(60, name("in"), both), api.ErrForm},
		{deep(3, num(1), both), api.OK},
		{round[0], api.ErrMuch},
		{badRound[0], api.ErrForm},
	} {
		if printed, err := text.Print(only(c.body)); err != c.want || err != api.OK && printed != "" {
			t.Errorf("%d: %d comes, not %d", i, err, c.want)
		}
	}
}
