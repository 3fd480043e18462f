package text_test

import (
	"testing"

	"adjoint/api"
)

func TestP2Programs(t *testing.T) {
	wantRead(t, "", nil)
	wantRead(t, "fn f()=1;", only(num(1)))
	wantRead(t, "fn f ( ) = 1 ; fn g ( ) = 2 ;", program(fn("f", num(1)), fn("g", num(2))))
	wantRead(t, "fn f(x:[n 4],y:[])=x;", program(fn("f", name("x"), given("x", dim("n"), dim(4)), given("y"))))
	wantRead(t, "fn f(x: [n n 0 9223372036854775807]) = x;", program(fn("f", name("x"), given("x", dim("n"), dim("n"), dim(0), dim(9223372036854775807)))))
	wantRead(t, "fn # a remark\nf(#)\n)#\n=\r\n\t1;# the end", only(num(1)))
	// A name may come twice here, and needs no meaning.
	wantRead(t, "fn f(f: [f], f: [f]) = f; fn f() = g(y);", program(fn("f", name("f"), given("f", dim("f")), given("f", dim("f"))), fn("f", call("g", name("y")))))
	// Words that begin as those of the language do are names.
	wantRead(t, "fn fnn(lets: [], i: [], ins: [Let]) = repeat1 + with_ * _;",
		program(fn("fnn", two("+", name("repeat1"), two("*", name("with_"), name("_"))), given("lets"), given("i"), given("ins", dim("Let")))))
	// What chapter 3 does not bound.
	wantRead(t, "fn f(x: [1 2 3 4 5 6 7 8 9]) = repeat 65 x = x with x;",
		program(fn("f", repeat(65, "x", name("x"), name("x")), given("x", dim(1), dim(2), dim(3), dim(4), dim(5), dim(6), dim(7), dim(8), dim(9)))))
}

func TestP4Trees(t *testing.T) {
	x, y, z := name("x"), name("y"), name("z")
	wantBody(t, "0", num(0))
	wantBody(t, "9223372036854775807", num(9223372036854775807))
	wantBody(t, "x", x)
	wantBody(t, "x()", call("x"))
	wantBody(t, "x(y)", call("x", y))
	wantBody(t, "x(y, 1, z + 2)", call("x", y, num(1), two("+", z, num(2))))
	wantBody(t, "x[]()", shaped(call("x")))
	wantBody(t, "x[n 2 m](y)", shaped(call("x", y), dim("n"), dim(2), dim("m")))
	wantBody(t, "x{}()", listed(call("x"), nil))
	wantBody(t, "x{}{1}{}{2 3 0}(y)", listed(call("x", y), nil, []int{1}, nil, []int{2, 3, 0}))
	wantBody(t, "x[0]{9223372036854775807}(y)", listed(shaped(call("x", y), dim(0)), []int{9223372036854775807}))
	wantBody(t, "g[2 n]{}{1}(1 - 2 + 3 * 4)", listed(shaped(call("g", two("+", two("-", num(1), num(2)), two("*", num(3), num(4)))), dim(2), dim("n")), nil, []int{1}))
	wantBody(t, "let x = 1 in x", let("x", num(1), x))
	wantBody(t, "repeat 0 x = 1 with x", repeat(0, "x", num(1), x))
	wantBody(t, "repeat 9223372036854775807 x = y with z", repeat(9223372036854775807, "x", y, z))
	wantBody(t, "let x = let y = 1 in 2 in let z = 3 in 4", let("x", let("y", num(1), num(2)), let("z", num(3), num(4))))
	wantBody(t, "repeat 1 x = repeat 2 y = 1 with 2 with repeat 3 z = 3 with 4", repeat(1, "x", repeat(2, "y", num(1), num(2)), repeat(3, "z", num(3), num(4))))
	wantBody(t, "let x = repeat 1 y = 2 with 3 in repeat 4 z = let y = 5 in 6 with 7",
		let("x", repeat(1, "y", num(2), num(3)), repeat(4, "z", let("y", num(5), num(6)), num(7))))
	// What stands behind in or with goes on as far as it can.
	wantBody(t, "let x = 1 in x + y * z", let("x", num(1), two("+", x, two("*", y, z))))
	wantBody(t, "(let x = 1 in x) + y", two("+", let("x", num(1), x), y))
	wantBody(t, "let a = sum{0 1}(x) in repeat 3 y = a with y * (y - 1)",
		let("a", listed(call("sum", x), []int{0, 1}), repeat(3, "y", name("a"), two("*", y, two("-", y, num(1))))))
}

func TestP4Signs(t *testing.T) {
	a, b, c, d := name("a"), name("b"), name("c"), name("d")
	wantBody(t, "a+b", two("+", a, b))
	wantBody(t, "a-b", two("-", a, b))
	wantBody(t, "a*b", two("*", a, b))
	wantBody(t, "a - b + c", two("+", two("-", a, b), c))
	wantBody(t, "a + b - c - d", two("-", two("-", two("+", a, b), c), d))
	wantBody(t, "a * b * c * d", two("*", two("*", two("*", a, b), c), d))
	wantBody(t, "a + b * c", two("+", a, two("*", b, c)))
	wantBody(t, "a * b + c", two("+", two("*", a, b), c))
	wantBody(t, "a * b - c * d", two("-", two("*", a, b), two("*", c, d)))
	wantBody(t, "a - (b + c)", two("-", a, two("+", b, c)))
	wantBody(t, "a * (b * c)", two("*", a, two("*", b, c)))
	wantBody(t, "(a + b) * (c - d)", two("*", two("+", a, b), two("-", c, d)))
	wantBody(t, "f(a) * g(b) + 1", two("+", two("*", call("f", a), call("g", b)), num(1)))
}

func TestP4Brackets(t *testing.T) {
	a, b := name("a"), name("b")
	wantBody(t, "(a)", a)
	wantBody(t, "((1))", num(1))
	wantBody(t, "(((a)+((b))))", two("+", a, b))
	wantBody(t, "(f((a),((b))))", call("f", a, b))
	wantBody(t, "(let x = (a) in (b))", let("x", a, b))
	wantBody(t, "((repeat 2 x = ((a)) with (b)))", repeat(2, "x", a, b))
}

func TestP3Form(t *testing.T) {
	for _, s := range []string{
		"@x", "@1", "@;", "@(", "@let", "fn f() = 1;@;", "fn f() = 1;@g", "fn f() = 1; @= 2;",
		"fn @let() = 1;", "fn @fn() = 1;", "fn @in() = 1;", "fn @repeat() = 1;", "fn @with() = 1;", "fn @1() = 1;", "fn @() = 1;", "fn f @= 1;", "fn f@[]() = 1;",
		"fn f(@,) = 1;", "fn f(@1) = 1;", "fn f(@in: []) = 1;", "fn f(x@) = 1;", "fn f(x @[2]) = x;", "fn f(x:@) = 1;", "fn f(x: @y) = 1;", "fn f(x: []@[]) = 1;",
		"fn f(x: [],@) = 1;", "fn f(x: []@y: []) = 1;", "fn f(x: [@,]) = 1;", "fn f(x: [@-1]) = 1;", "fn f(x: [@let]) = 1;", "fn f(x: [@[]]) = 1;", "fn f(x: [n@)",
		"fn f() @1;", "fn f() =@;", "fn f() = @;", "fn f() = 1@)", "fn f() = 1 @2;", "fn f() = x @1;", "fn f() = x @y;", "fn f() = 1@(2);", "fn f() = 1@[2];", "fn f() = 1@{2};",
		"fn f() = @-1;", "fn f() = 1 + @- 1;", "fn f() = 1 +@;", "fn f() = 1 * @* 2;", "fn f() = (@);", "fn f() = (1@;", "fn f() = (1@, 2);", "fn f() = 1@, 2;",
		"fn f() = 1 + @let a = 1 in a;", "fn f() = 2 * @repeat 1 a = 1 with a;", "fn f() = @fn;", "fn f() = @in;", "fn f() = @with;",
		"fn f() = let @1 = 2 in 3;", "fn f() = let @let = 2 in 3;", "fn f() = let x @2 in 3;", "fn f() = let x = @in 3;", "fn f() = let x = 2@;", "fn f() = let x = 2 @with 3;", "fn f() = let x = 2 in@;",
		"fn f() = let x@[] = 2 in 3;", "fn f() = (let x = 1@) in 2;", "fn f() = let x = (1 @in 2;",
		"fn f() = repeat @x = 1 with 2;", "fn f() = repeat @(1) x = 1 with 2;", "fn f() = repeat 1 @2 = 1 with 2;", "fn f() = repeat 1 @in = 1 with 2;", "fn f() = repeat 1 x @1 with 2;",
		"fn f() = repeat 1 x = 1 @in 2;", "fn f() = repeat 1 x = 1 with@;", "fn f() = repeat @- 1 x = 1 with 2;",
		"fn f() = f(@,);", "fn f() = f(1,@);", "fn f() = f(1@;", "fn f() = f(1 @2);", "fn f() = f(1@];", "fn f() = f(@fn);",
		"fn f() = x[1]@;", "fn f() = x[1]@[2]();", "fn f() = x{1}@;", "fn f() = x{1}@[2]();", "fn f() = x{1@;", "fn f() = x{@n}();", "fn f() = x{1@,2}();", "fn f() = x{@-1}();", "fn f() = x[1@}", "fn f() = x{@{}}();",
		"fn f() = x[1] @+ 2;", "fn f() = x()@();", "fn f() = x()@[]();", "fn f() = (x)@(1);",
	} {
		wantForm(t, s)
	}
}

// Where the tokens end too early, the length of the text is told, with all that is skipped at its end.
func TestP3Early(t *testing.T) {
	for _, s := range []string{"fn", "fn f", "fn f(", "fn f(x", "fn f(x:", "fn f(x: [", "fn f(x: [n", "fn f(x: [n]", "fn f(x: [n],", "fn f()", "fn f() =", "fn f() = 1", "fn f() = x",
		"fn f() = (", "fn f() = (1", "fn f() = 1 +", "fn f() = 1 + 2", "fn f() = 1 *", "fn f() = x[", "fn f() = x[1", "fn f() = x[1]", "fn f() = x{", "fn f() = x{1", "fn f() = x{1}", "fn f() = x(", "fn f() = x(1", "fn f() = x(1,", "fn f() = x()",
		"fn f() = let", "fn f() = let x", "fn f() = let x =", "fn f() = let x = 1", "fn f() = let x = 1 in", "fn f() = let x = 1 in 2",
		"fn f() = repeat", "fn f() = repeat 1", "fn f() = repeat 1 x", "fn f() = repeat 1 x =", "fn f() = repeat 1 x = 1", "fn f() = repeat 1 x = 1 with", "fn f() = repeat 1 x = 1 with 2",
		"fn f() = 1; fn", "fn f() = 1; fn g() = 2"} {
		for _, end := range []string{"", " ", "\n\n", " # a remark ;", "#", "# ;\n\t"} {
			wantFault(t, s+end, api.ErrForm, len(s+end))
		}
	}
}

// nested is a text so deep: a beginning and an end so many times around an expr.
func nested(before, inner, after string, deep int) string {
	return times(before, deep) + inner + times(after, deep)
}

// ways are those in which one expr can stand within another one.
var ways = [][2]string{{"(", ")"}, {"f(", ")"}, {"f[2]{1}(", ")"}, {"f(x, ", ", y)"}, {"let x = ", " in x"}, {"let x = 1 in ", ""},
	{"repeat 2 x = ", " with x"}, {"repeat 2 x = 1 with ", ""}, {"1 + 2 * (", ") * 2 - 3"}, {"2 - f(", ")"}}

func TestP3Level64(t *testing.T) {
	const begin = "fn g() = 1; fn f() = "
	for _, way := range ways {
		for _, inner := range []string{"1", "x", "f()", "f[1]{2}()", "1 + 2 * 3", "x * x * x"} {
			s := begin + nested(way[0], inner, way[1], 63) + ";"
			if got, f := readBody(s); f != (api.Fault{}) || got == "" {
				t.Errorf("level 64 of %v with %q: %v", way, inner, f)
			}
		}
		// What stands on level 65 does not matter.
		at := len(begin + times(way[0], 64))
		if way[0] == "f(x, " || way[0] == "let x = 1 in " || way[0] == "repeat 2 x = 1 with " {
			// Its first part is the first that is on level 65.
			at = len(begin + times(way[0], 63) + way[0][:len(way[0])-len(lastPart(way[0]))])
		}
		for _, inner := range []string{"1", "x", "f()", "(1", "let", "repeat", "fn", "in", ";", "]", "*", "=", ","} {
			wantFault(t, begin+nested(way[0], inner, way[1], 64)+";", api.ErrMuch, at)
			wantFault(t, begin+nested(way[0], inner, way[1], 100)+";", api.ErrMuch, at)
		}
	}
}

// lastPart is what stands in a way's beginning from the first expr within on.
func lastPart(before string) string {
	switch before {
	case "f(x, ":
		return "x, "
	case "let x = 1 in ":
		return "1 in "
	}
	return "1 with "
}

// At the end of the text there may be nothing on level 65.
func TestP3Level65IsNothing(t *testing.T) {
	for _, before := range []string{"(", "f(", "f{}(", "let x = ", "repeat 2 x = ", "1 + (", "1 * f("} {
		for _, end := range []string{"", " ", "# the end", "\n"} {
			s := "fn f() = " + times(before, 64) + end
			wantFault(t, s, api.ErrMuch, len(s))
			s = "fn f() = " + times(before, 63) + end
			wantFault(t, s, api.ErrForm, len(s))
		}
	}
	// A call without arguments has none on a level above its own.
	wantFault(t, "fn f() = "+times("(", 63)+"f()", api.ErrForm, 75)
	wantFault(t, "fn f() = "+times("(", 63)+"f(;", api.ErrMuch, 74)
	wantFault(t, "fn f() = "+times("(", 63)+"f(,", api.ErrMuch, 74)
	wantFault(t, "fn f() = "+times("(", 63)+";", api.ErrForm, 72)
	// What must stand ahead of an expr on level 65 is asked for first.
	wantFault(t, "fn f() = "+times("(", 63)+"let ;", api.ErrForm, 76)
	wantFault(t, "fn f() = "+times("(", 63)+"let x ;", api.ErrForm, 78)
	wantFault(t, "fn f() = "+times("(", 63)+"let x = ;", api.ErrMuch, 80)
	wantFault(t, "fn f() = "+times("(", 63)+"repeat x", api.ErrForm, 79)
	wantFault(t, "fn f() = "+times("(", 63)+"f[;", api.ErrForm, 74)
	wantFault(t, "fn f() = "+times("(", 63)+"f[];", api.ErrForm, 75)
}

// Levels are counted within one another, not one behind the other.
func TestP3LevelsApart(t *testing.T) {
	deep, less := nested("(", "1", ")", 62), nested("(", "1", ")", 61)
	for _, s := range []string{"fn f() = (" + deep + " + " + deep + ") * f(" + deep + ", " + deep + ");", "fn f() = let x = " + deep + " in f(" + less + ");", "fn f() = " + deep + "; fn g() = (" + deep + ");"} {
		if _, f := readBody(s); f != (api.Fault{}) {
			t.Errorf("%q: %v", cut(s), f)
		}
	}
}

func TestP3Signs(t *testing.T) {
	for _, sign := range []string{"+", "-", "*"} {
		want := num(0)
		for i := range 64 {
			want = two(sign, want, num(int64(i+1)))
		}
		chain := "0"
		for i := range 64 {
			chain += sign + show(i+1)
		}
		wantBody(t, chain, want)
		wantBody(t, "f("+chain+")", call("f", want))
		wantFault(t, "fn f() = "+chain+sign+"65;", api.ErrMuch, 9+len(chain))
		wantFault(t, "fn f() = "+chain+" "+sign, api.ErrMuch, 10+len(chain))
		wantFault(t, "fn f() = "+chain+sign+sign, api.ErrMuch, 9+len(chain))
		wantFault(t, "fn f() = ("+chain+sign+"1);", api.ErrMuch, 10+len(chain))
		wantFault(t, "fn f() = let x = 1 in "+chain+sign+"1;", api.ErrMuch, 22+len(chain))
		wantFault(t, "fn f() = "+chain+";"+sign, api.ErrForm, 10+len(chain))
	}
	// The signs + and - of one sum are counted together, those of its products each apart.
	sum := "1" + times("-1+1", 32)
	product := "1" + times("*1", 64)
	for _, s := range []string{sum, product + times("+"+product, 64), product + "-" + product, "(" + sum + ")*(" + sum + ")", "(" + sum + ")" + times("+("+product+")", 64), "f(" + sum + "," + sum + ")"} {
		if _, f := readBody("fn f() = " + s + "; fn g() = " + s + ";"); f != (api.Fault{}) {
			t.Errorf("%q: %v", cut(s), f)
		}
	}
	wantFault(t, "fn f() = "+sum+"+1;", api.ErrMuch, 9+len(sum))
	wantFault(t, "fn f() = "+sum+"-1;", api.ErrMuch, 9+len(sum))
	wantFault(t, "fn f() = "+sum+"*1*1-1;", api.ErrMuch, 13+len(sum))
	wantFault(t, "fn f() = 1+"+product+"*1;", api.ErrMuch, 11+len(product))
	wantFault(t, "fn f() = "+product+"+"+product+"*1;", api.ErrMuch, 10+2*len(product))
}

// Of ErrForm and ErrMuch the one that comes first is told.
func TestP3First(t *testing.T) {
	deep, long := times("(", 64), "1"+times("+1", 64)
	wantFault(t, "fn f() = "+deep+"1", api.ErrMuch, 73)
	wantFault(t, "fn f( = "+deep+"1", api.ErrForm, 6)
	wantFault(t, "fn f() = "+deep+"1; let", api.ErrMuch, 73)
	wantFault(t, "fn f() = ;"+deep+"1", api.ErrForm, 9)
	wantFault(t, "fn f() = "+long+"+1 1", api.ErrMuch, 9+len(long))
	wantFault(t, "fn f() = "+long+" 1 +1", api.ErrForm, 10+len(long))
	wantFault(t, "fn f() = "+long+")+1", api.ErrForm, 9+len(long))
	wantFault(t, "fn f() = "+long+"+"+deep+"1", api.ErrMuch, 9+len(long))
	wantFault(t, "fn f() = "+deep+long+"+1", api.ErrMuch, 73)
	wantFault(t, "fn f() = 1; fn g() = "+deep+"1; fn", api.ErrMuch, 85)
}
