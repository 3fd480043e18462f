package text_test

import (
	"math"
	"slices"
	"strings"
	"testing"

	"adjoint/api"
	"adjoint/text"
)

func TestP5Programs(t *testing.T) {
	wantPrint(t, nil, "")
	wantPrint(t, only(num(1)), "fn f() = 1;\n")
	wantPrint(t, program(fn("f", name("x"), given("x", dim("n"), dim(4)), given("y"))), "fn f(x: [n 4], y: []) = x;\n")
	wantPrint(t, program(fn("a", num(0), given("x")), fn("b", num(1)), fn("_1", name("In"), given("x", dim(0), dim(9223372036854775807), dim("n")))),
		"fn a(x: []) = 0;\nfn b() = 1;\nfn _1(x: [0 9223372036854775807 n]) = In;\n")
	// Whether a program has a meaning is not asked.
	wantPrint(t, program(fn("f", call("g", name("y")), given("x"), given("x")), fn("f", num(1))), "fn f(x: [], x: []) = g(y);\nfn f() = 1;\n")
}

func TestP5Trees(t *testing.T) {
	x, y := name("x"), name("y")
	wantExpr(t, num(0), "0")
	wantExpr(t, num(math.MaxInt64), "9223372036854775807")
	wantExpr(t, x, "x")
	wantExpr(t, call("f"), "f()")
	wantExpr(t, call("f", x, num(1), y), "f(x, 1, y)")
	wantExpr(t, shaped(call("f")), "f[]()")
	wantExpr(t, shaped(call("f", x), dim("n"), dim(3), dim(0)), "f[n 3 0](x)")
	wantExpr(t, listed(call("f"), nil), "f{}()")
	wantExpr(t, listed(call("f", x), []int{0, 1, 2}, nil, []int{math.MaxInt}), "f{0 1 2}{}{9223372036854775807}(x)")
	wantExpr(t, listed(shaped(call("f", x, y), dim(2)), []int{3}), "f[2]{3}(x, y)")
	wantExpr(t, let("a", x, y), "let a = x in y")
	wantExpr(t, repeat(0, "a", x, y), "repeat 0 a = x with y")
	wantExpr(t, repeat(math.MaxInt64, "a", x, y), "repeat 9223372036854775807 a = x with y")
	wantExpr(t, let("a", listed(call("sum", x), []int{0, 1}), repeat(3, "y", name("a"), two("*", y, two("-", y, num(1))))),
		"let a = sum{0 1}(x) in repeat 3 y = a with y * (y - 1)")
	// No brackets around what stands behind a comma, =, in or with.
	wantExpr(t, call("f", let("a", x, y), two("+", x, y), repeat(1, "b", x, y)), "f(let a = x in y, x + y, repeat 1 b = x with y)")
	wantExpr(t, let("a", let("b", x, y), let("c", x, y)), "let a = let b = x in y in let c = x in y")
	wantExpr(t, repeat(1, "a", let("b", x, y), two("-", x, y)), "repeat 1 a = let b = x in y with x - y")
}

// Each kind of tree on both sides of each sign.
func TestP5Brackets(t *testing.T) {
	x, y := name("x"), name("y")
	// Whether there are brackets left and right of + and -, and ahead of and behind *.
	for _, c := range []struct {
		tree          api.Tree
		text          string
		left, right   bool
		ahead, behind bool
	}{
		{num(7), "7", false, false, false, false},
		{x, "x", false, false, false, false},
		{call("f", x), "f(x)", false, false, false, false},
		{shaped(call("f", two("+", x, y)), dim(1)), "f[1](x + y)", false, false, false, false},
		{two("+", x, y), "x + y", false, true, true, true},
		{two("-", x, y), "x - y", false, true, true, true},
		{two("*", x, y), "x * y", false, false, false, true},
		{let("a", x, y), "let a = x in y", true, true, true, true},
		{repeat(2, "a", x, y), "repeat 2 a = x with y", true, true, true, true},
	} {
		in := func(brackets bool) string {
			if brackets {
				return "(" + c.text + ")"
			}
			return c.text
		}
		for _, sign := range []string{"+", "-"} {
			wantExpr(t, two(sign, c.tree, num(1)), in(c.left)+" "+sign+" 1")
			wantExpr(t, two(sign, num(1), c.tree), "1 "+sign+" "+in(c.right))
			wantExpr(t, two(sign, c.tree, c.tree), in(c.left)+" "+sign+" "+in(c.right))
		}
		wantExpr(t, two("*", c.tree, num(1)), in(c.ahead)+" * 1")
		wantExpr(t, two("*", num(1), c.tree), "1 * "+in(c.behind))
		wantExpr(t, two("*", c.tree, c.tree), in(c.ahead)+" * "+in(c.behind))
	}
	wantExpr(t, two("+", two("-", two("-", num(1), num(2)), two("-", num(3), num(4))), repeat(2, "x", num(1), x)), "1 - 2 - (3 - 4) + (repeat 2 x = 1 with x)")
	wantExpr(t, two("-", two("*", two("+", x, two("-", y, num(1))), two("*", num(2), two("*", x, num(3)))), let("a", x, name("a"))),
		"(x + (y - 1)) * (2 * (x * 3)) - (let a = x in a)")
	wantExpr(t, two("*", two("*", x, two("*", y, x)), two("+", x, y)), "x * (y * x) * (x + y)")
}

// badNames are none.
func badNames() []string {
	return []string{"", "fn", "let", "in", "repeat", "with", "1", "0", "1x", "x y", " x", "x ", "x\n", "x-", "+", "a.b", "\u00e4", "x\u00e4", "\xff", "x\x00", "#", "(", "x,y", "x;"}
}

// In every place where a Name stands, one that is none cannot be written.
func TestP5Names(t *testing.T) {
	for _, bad := range badNames() {
		one := num(1)
		wantErr(t, program(fn(bad, one)), api.ErrForm)
		wantErr(t, program(fn("f", one, given(bad))), api.ErrForm)
		wantErr(t, program(fn("f", one, given("x"), given(bad, dim(2)))), api.ErrForm)
		for _, tree := range []api.Tree{name(bad), call(bad), call(bad, one), let(bad, one, one), repeat(1, bad, one, one), two(bad, one, one)} {
			if bad != "+" || tree.Kind != api.TreeTwo {
				wantBadTree(t, tree)
			}
		}
		if bad == "" {
			continue
		}
		wantErr(t, program(fn("f", one, given("x", dim(1), dim(bad)))), api.ErrForm)
		wantBadTree(t, shaped(call("f"), dim(bad)))
		wantBadTree(t, shaped(call("f"), dim("n"), dim(1), dim(bad)))
	}
	for _, sign := range []string{"", "x", "/", "++", "+ ", " *", "*-", "=", "1", "let"} {
		wantBadTree(t, two(sign, num(1), num(2)))
	}
}

// wantBadTree: a tree cannot be written, wherever it stands.
func wantBadTree(t *testing.T, bad api.Tree) {
	t.Helper()
	one := num(1)
	for _, body := range []api.Tree{bad, two("+", bad, one), two("*", one, bad), let("x", bad, one), let("x", one, bad), repeat(1, "x", bad, one),
		repeat(1, "x", one, bad), call("f", bad), call("f", one, one, bad), call("f", call("g", one, two("-", one, call("h", bad))), one)} {
		wantErr(t, only(body), api.ErrForm)
	}
	wantErr(t, program(fn("a", one), fn("b", bad), fn("c", one)), api.ErrForm)
}

func TestP5Numbers(t *testing.T) {
	for _, n := range []int{-1, -2, math.MinInt} {
		one := num(1)
		wantBadTree(t, num(int64(n)))
		wantBadTree(t, repeat(int64(n), "x", one, one))
		wantBadTree(t, listed(call("f"), []int{n}))
		wantBadTree(t, listed(call("f"), nil, []int{1, 2, n}))
		wantBadTree(t, shaped(call("f"), dim(n)))
		wantBadTree(t, shaped(call("f"), dim("n"), dim(n)))
		wantErr(t, program(fn("f", one, given("x", dim(n)))), api.ErrForm)
		wantErr(t, program(fn("f", one, given("y"), given("x", dim(1), dim(n)))), api.ErrForm)
	}
	for _, size := range []int{1, -1, math.MaxInt, math.MinInt} {
		both := api.Dim{Name: "n", Size: size}
		wantBadTree(t, shaped(call("f"), both))
		wantBadTree(t, shaped(call("f"), dim(1), both))
		wantErr(t, program(fn("f", num(1), given("x", dim("n"), both))), api.ErrForm)
	}
}

// What a kind does not have must not be there.
func TestP5Kinds(t *testing.T) {
	one := num(1)
	for _, kind := range []int{0, 7, 8, -1, 100, math.MaxInt, math.MinInt} {
		for _, like := range []api.Tree{{}, one, name("x"), call("f", one), two("+", one, one), let("x", one, one), repeat(1, "x", one, one)} {
			like.Kind = kind
			wantBadTree(t, like)
		}
	}
	for _, good := range []api.Tree{one, name("x"), call("f", one), two("+", one, one), two("*", one, one), let("x", one, one), repeat(1, "x", one, one)} {
		change := func(how func(*api.Tree)) {
			t.Helper()
			bad := good
			how(&bad)
			wantBadTree(t, bad)
		}
		if good.Kind == api.TreeNumber {
			change(func(t *api.Tree) { t.Name = "x" })
			change(func(t *api.Tree) { t.Name = "+" })
		} else if good.Kind != api.TreeRepeat {
			change(func(t *api.Tree) { t.Number = 1 })
			change(func(t *api.Tree) { t.Number = -1 })
		}
		// A Shape without Shaped is told of calls too.
		change(func(t *api.Tree) { t.Shape = []api.Dim{dim(1)} })
		change(func(t *api.Tree) { t.Shape = []api.Dim{{}} })
		if good.Kind == api.TreeCall {
			continue
		}
		change(func(t *api.Tree) { t.Shaped = true })
		change(func(t *api.Tree) { t.Shaped, t.Shape = true, []api.Dim{dim("n")} })
		change(func(t *api.Tree) { t.Lists = [][]int{nil} })
		change(func(t *api.Tree) { t.Lists = [][]int{{1}, {2}} })
		for many := range 5 {
			if many != len(good.Kids) {
				change(func(t *api.Tree) { t.Kids = slices.Repeat([]api.Tree{one}, many) })
			}
		}
	}
}

// deep is a tree within so many others, each made by how.
func deep(many int, inner api.Tree, how func(api.Tree) api.Tree) api.Tree {
	for range many {
		inner = how(inner)
	}
	return inner
}

// around are the ways in which a tree has another one one level above it.
func around() []func(api.Tree) api.Tree {
	one := num(1)
	return []func(api.Tree) api.Tree{
		func(t api.Tree) api.Tree { return call("f", t) },
		func(t api.Tree) api.Tree { return call("f", one, one, t) },
		func(t api.Tree) api.Tree { return let("x", t, one) },
		func(t api.Tree) api.Tree { return let("x", one, t) },
		func(t api.Tree) api.Tree { return repeat(1, "x", t, one) },
		func(t api.Tree) api.Tree { return repeat(1, "x", one, t) },
		func(t api.Tree) api.Tree { return two("-", one, two("+", t, one)) },
		func(t api.Tree) api.Tree { return two("*", one, two("*", t, one)) },
		func(t api.Tree) api.Tree { return two("*", two("+", t, one), one) },
		func(t api.Tree) api.Tree { return two("*", one, two("-", one, t)) },
	}
}

func TestP5Levels(t *testing.T) {
	for _, how := range around() {
		for _, inner := range []api.Tree{num(1), call("f"), shaped(call("g"), dim(1)), two("*", num(1), num(2))} {
			body := deep(63, inner, how)
			printed, err := text.Print(only(body))
			again, f := text.Read(printed)
			if err != api.OK || f != (api.Fault{}) || show(again) != show(only(body)) {
				t.Errorf("level 64, of %s: %d, %v", show(how(num(0))), err, f)
			}
			for _, many := range []int{64, 65, 1000} {
				wantErr(t, only(deep(many, inner, how)), api.ErrMuch)
			}
			wantErr(t, program(fn("f", num(1)), fn("g", deep(64, inner, how))), api.ErrMuch)
		}
	}
	// Brackets count: on level 64 none can stand.
	call63 := func(t api.Tree) api.Tree { return deep(63, t, around()[0]) }
	let1 := let("x", num(1), num(2))
	for _, c := range []struct {
		tree api.Tree
		want api.Errno
	}{
		{num(1), api.OK},
		{call("f"), api.OK},
		{call("f", num(1)), api.ErrMuch},
		{let1, api.ErrMuch},
		{two("+", two("-", num(1), num(2)), two("*", num(3), num(4))), api.OK},
		{two("*", two("*", num(1), num(2)), num(3)), api.OK},
		{two("+", num(1), two("+", num(1), num(2))), api.ErrMuch},
		{two("*", num(1), two("*", num(1), num(2))), api.ErrMuch},
		{two("*", two("+", num(1), num(2)), num(1)), api.ErrMuch},
		{two("+", let1, num(1)), api.ErrMuch},
	} {
		if _, err := text.Print(only(call63(c.tree))); err != c.want {
			t.Errorf("on level 64 %s: %d comes, not %d", show(c.tree), err, c.want)
		}
	}
}

// signs is a sum or product with so many signs, from the left on.
func signs(sign string, many int) api.Tree {
	return deep(many, name("a"), func(t api.Tree) api.Tree { return two(sign, t, name("b")) })
}

func TestP5Signs(t *testing.T) {
	for _, sign := range []string{"+", "-", "*"} {
		wantExpr(t, signs(sign, 64), "a"+times(" "+sign+" b", 64))
		for _, many := range []int{65, 66, 1000} {
			wantErr(t, only(signs(sign, many)), api.ErrMuch)
		}
		long := signs(sign, 65)
		for _, how := range around() {
			wantErr(t, only(how(long)), api.ErrMuch)
		}
	}
	sum, product := signs("+", 64), signs("*", 64)
	// In brackets another sum begins, another product behind a sign of a sum.
	wantExpr(t, two("*", sum, sum), "(a"+times(" + b", 64)+") * (a"+times(" + b", 64)+")")
	wantExpr(t, two("-", product, product), "a"+times(" * b", 64)+" - a"+times(" * b", 64))
	wantExpr(t, two("+", num(1), sum), "1 + (a"+times(" + b", 64)+")")
	wantExpr(t, two("*", num(1), product), "1 * (a"+times(" * b", 64)+")")
	wantExpr(t, call("f", sum, sum), "f(a"+times(" + b", 64)+", a"+times(" + b", 64)+")")
	wantExpr(t, deep(64, product, func(t api.Tree) api.Tree { return two("-", t, product) }), "a"+times(" * b", 64)+times(" - a"+times(" * b", 64), 64))
	wantErr(t, only(deep(65, product, func(t api.Tree) api.Tree { return two("-", t, num(1)) })), api.ErrMuch)
	// + and - are counted together.
	mixed := deep(32, name("a"), func(t api.Tree) api.Tree { return two("+", two("-", t, num(1)), num(2)) })
	wantExpr(t, mixed, "a"+times(" - 1 + 2", 32))
	wantErr(t, only(two("-", mixed, num(1))), api.ErrMuch)
	wantErr(t, only(two("+", mixed, num(1))), api.ErrMuch)
	wantErr(t, only(two("*", num(2), two("+", mixed, num(1)))), api.ErrMuch)
}

func TestP5MaxText(t *testing.T) {
	// fn f() = ..;\n has 11 bytes around its body.
	wantExpr(t, name(times("x", 65536-11)), times("x", 65536-11))
	wantErr(t, only(name(times("x", 65537-11))), api.ErrMuch)
	wantErr(t, only(name(times("x", 1<<22))), api.ErrMuch)
	wantPrint(t, program(fn(times("g", 65536-11), num(1))), "fn "+times("g", 65536-11)+"() = 1;\n")
	wantErr(t, program(fn(times("g", 65537-11), num(1))), api.ErrMuch)
	wantPrint(t, slices.Repeat(only(num(12)), 5041), times("fn f() = 12;\n", 5041))
	wantErr(t, slices.Repeat(only(num(12)), 5042), api.ErrMuch)
	wantErr(t, append(slices.Repeat(only(num(12)), 5040), fn("f", num(1e5))), api.ErrMuch)
	wantPrint(t, append(slices.Repeat(only(num(12)), 5040), fn("f", num(1e4))), times("fn f() = 12;\n", 5040)+"fn f() = 10000;\n")
	ones := func(many int) []int { return slices.Repeat([]int{1}, many) }
	wantExpr(t, listed(call("gg"), ones(32760)), "gg{"+strings.TrimSpace(times("1 ", 32760))+"}()")
	wantErr(t, only(listed(call("ggg"), ones(32760))), api.ErrMuch)
	wantErr(t, only(listed(call("g"), ones(32761))), api.ErrMuch)
	wantErr(t, only(listed(call("g"), slices.Repeat([][]int{nil}, 32768)...)), api.ErrMuch)
	wantErr(t, only(shaped(call("g"), slices.Repeat([]api.Dim{dim(1)}, 1<<20)...)), api.ErrMuch)
	wantErr(t, only(call("g", slices.Repeat([]api.Tree{num(1)}, 1<<20)...)), api.ErrMuch)
	wantErr(t, program(fn("f", num(1), slices.Repeat([]api.Given{given("x")}, 1<<20)...)), api.ErrMuch)
	wantErr(t, slices.Repeat(only(num(1)), 1<<20), api.ErrMuch)
}

// What cannot be written is told ahead of what is too much, wherever it stands.
func TestP5FormFirst(t *testing.T) {
	bad, long := num(-1), name(times("x", 70000))
	wantErr(t, program(fn("f", long), fn("f", bad)), api.ErrForm)
	wantErr(t, program(fn("f", long), fn("in", num(1))), api.ErrForm)
	wantErr(t, program(fn("f", long), fn("f", num(1), given("x", dim(-1)))), api.ErrForm)
	wantErr(t, program(fn(times("f", 70000), num(1), given("1"))), api.ErrForm)
	wantErr(t, only(name(times("x", 70000)+"-")), api.ErrForm)
	wantErr(t, only(two("+", signs("+", 100), bad)), api.ErrForm)
	wantErr(t, only(call("g", append(slices.Repeat([]api.Tree{long}, 10), bad)...)), api.ErrForm)
	for _, how := range around() {
		for _, many := range []int{64, 70, 20000} {
			wantErr(t, only(deep(many, bad, how)), api.ErrForm)
			wantErr(t, only(deep(many, num(1), how)), api.ErrMuch)
		}
	}
	for _, sign := range []string{"+", "-", "*"} {
		for _, many := range []int{65, 60000} {
			wantErr(t, only(deep(many, bad, func(t api.Tree) api.Tree { return two(sign, t, num(1)) })), api.ErrForm)
			wantErr(t, only(deep(many, bad, func(t api.Tree) api.Tree { return two(sign, num(1), t) })), api.ErrForm)
			wantErr(t, only(signs(sign, many)), api.ErrMuch)
		}
	}
}
