package sense_test

import (
	"fmt"
	"strings"
	"testing"

	"adjoint/api"
)

func num(n int64) api.Tree { return api.Tree{Kind: api.TreeNumber, Number: n} }

func name(s string) api.Tree { return api.Tree{Kind: api.TreeName, Name: s} }

func call(s string, kids ...api.Tree) api.Tree {
	return api.Tree{Kind: api.TreeCall, Name: s, Kids: kids}
}

func fn(s string, body api.Tree, given ...api.Given) api.Func {
	return api.Func{Name: s, Given: given, Body: body}
}

// What Print says comes ahead of all else, wherever it is found.
func TestS2WhatCannotBeWritten(t *testing.T) {
	ill := []api.Func{fn("sum", name("none")), fn("f", num(-1))}
	wantWrongTrees(t, ill, api.ErrForm)
	wantWrongTrees(t, []api.Func{fn("f", api.Tree{})}, api.ErrForm)
	wantWrongTrees(t, []api.Func{fn("", num(1))}, api.ErrForm)
	wantWrongTrees(t, []api.Func{fn("let", num(1))}, api.ErrForm)
	wantWrongTrees(t, []api.Func{fn("+", num(1))}, api.ErrForm)
	wantWrongTrees(t, []api.Func{fn("f", call("+", num(1), num(2)))}, api.ErrForm)
	wantWrongTrees(t, []api.Func{fn("f", num(1), api.Given{Name: "1"})}, api.ErrForm)
	wantWrongTrees(t, []api.Func{fn("f", num(1), api.Given{Name: "x", Dims: []api.Dim{{Size: -1}}})}, api.ErrForm)
	wantWrongTrees(t, []api.Func{fn("f", num(1), api.Given{Name: "x", Dims: []api.Dim{{Name: "n", Size: 1}}})}, api.ErrForm)
	wantWrongTrees(t, []api.Func{fn("f", api.Tree{Kind: api.TreeTwo, Name: "/", Kids: []api.Tree{num(1), num(2)}})}, api.ErrForm)
	wantWrongTrees(t, []api.Func{fn("f", api.Tree{Kind: api.TreeLet, Name: "x", Kids: []api.Tree{num(1)}})}, api.ErrForm)
	deep := func(level int) api.Tree {
		body := name("none")
		for range level - 1 {
			body = call("join", body)
		}
		return body
	}
	wantWrongTrees(t, []api.Func{fn("sum", num(1)), fn("f", deep(65))}, api.ErrMuch)
	wantWrongTrees(t, []api.Func{fn("f", deep(65)), fn("g", num(-1))}, api.ErrForm)
	wantWrongTrees(t, []api.Func{fn("f", deep(64))}, api.ErrForm) // a join without a list
	long := strings.Repeat("x", api.MaxText)
	wantWrongTrees(t, []api.Func{fn(long, name("none"))}, api.ErrMuch)
	// The longest text that there can be.
	wantWrongTrees(t, []api.Func{fn(long[len("fn () = 1;\n"):], num(1))}, api.OK)
	wantWrongTrees(t, []api.Func{fn(long[len("fn () = 1;\n")-1:], num(1))}, api.ErrMuch)
}

func TestS2Functions(t *testing.T) {
	wantWrongTrees(t, nil, api.OK)
	wantWrongTrees(t, []api.Func{}, api.OK)
	wantWrong(t, "fn f() = 1;", api.OK)
	wantWrong(t, "fn f() = 1; fn g() = 2; fn h() = f() + g();", api.OK)
	wantWrong(t, "fn f() = 1; fn f() = 2;", api.ErrName)
	wantWrong(t, "fn f() = 1; fn g() = 2; fn f(x: []) = x;", api.ErrName)
	wantWrong(t, "fn f() = 1; fn F() = 2;", api.OK)
	// In their order: what is wrong with one is told ahead of what is wrong with the next.
	wantWrong(t, "fn f() = max(1); fn f() = 2;", api.ErrMany)
	wantWrong(t, "fn f() = 1; fn f() = max(1);", api.ErrName)
	wantWrong(t, "fn f() = sum(1); fn g() = max(1);", api.ErrForm)
	wantWrong(t, "fn f() = max(1); fn g() = sum(1);", api.ErrMany)
	wantWrong(t, "fn sum() = max(1);", api.ErrName)
	wantWrong(t, "fn f() = max(1); fn sum() = 1;", api.ErrMany)
}

func TestS2Parameters(t *testing.T) {
	wantWrong(t, "fn f(x: [], y: []) = x;", api.OK)
	wantWrong(t, "fn f(x: [], x: []) = 1;", api.ErrName)
	wantWrong(t, "fn f(x: [], y: [], z: [], x: [n]) = 1;", api.ErrName)
	wantWrong(t, "fn f(x: [], y: [n], y: [n], z: []) = 1;", api.ErrName)
	// Each function has its own; so have dimensions, and functions.
	wantWrong(t, "fn f(x: []) = x; fn g(x: []) = x;", api.OK)
	wantWrong(t, "fn f(x: [x x], y: [x]) = x;", api.OK)
	wantWrong(t, "fn f(f: []) = f;", api.OK)
	wantWrong(t, "fn f(x: []) = x; fn g(f: []) = f(f);", api.OK)
	// The name of the function is looked at ahead of them, the body behind them.
	wantWrong(t, "fn f(x: [], x: []) = max(1);", api.ErrName)
	wantWrong(t, "fn f(x: [], x: []) = sum(1);", api.ErrName)
}

func TestS2Names(t *testing.T) {
	wantWrong(t, "fn f() = y;", api.ErrName)
	wantWrong(t, "fn f(x: [n]) = n;", api.ErrName)
	wantWrong(t, "fn f() = f;", api.ErrName)
	wantWrong(t, "fn f() = 1; fn g() = f;", api.ErrName)
	wantWrong(t, "fn f(x: []) = x; fn g() = x;", api.ErrName)
	wantWrong(t, "fn f() = let x = 1 in x; fn g() = x;", api.ErrName)
	wantWrong(t, "fn f(x: []) = X;", api.ErrName)
	wantWrong(t, "fn f(x: []) = x + y;", api.ErrName)
	wantWrong(t, "fn f(x: []) = y + x;", api.ErrName)
	wantWrong(t, "fn f(x: []) = max(x, x * (x - y));", api.ErrName)
	wantWrong(t, "fn f(x: []) = repeat 0 y = x with z;", api.ErrName)
}

// In the second kid of a let or repeat its name stands for what is let there, and nowhere else.
func TestS3WhereNamesStand(t *testing.T) {
	for _, open := range []string{"let NAME = ONE in TWO", "repeat 2 NAME = ONE with TWO", "repeat 0 NAME = ONE with TWO"} {
		put := func(name, first, second string) string {
			return strings.NewReplacer("NAME", name, "ONE", first, "TWO", second).Replace(open)
		}
		wantWrong(t, "fn f(x: []) = "+put("y", "x", "y")+";", api.OK)
		wantWrong(t, "fn f(x: []) = "+put("y", "x", "x + y")+";", api.OK)
		wantWrong(t, "fn f(x: []) = "+put("y", "y", "x")+";", api.ErrName)
		wantWrong(t, "fn f() = "+put("y", "y", "y")+";", api.ErrName)
		wantWrong(t, "fn f(x: []) = "+put("y", "x", "z")+";", api.ErrName)
		wantWrong(t, "fn f(x: []) = ("+put("y", "x", "y")+") + y;", api.ErrName)
		wantWrong(t, "fn f(x: []) = y + ("+put("y", "x", "y")+");", api.ErrName)
		wantWrong(t, "fn f(x: []) = max("+put("y", "x", "y")+", y);", api.ErrName)
		// Of one that stood for something, it does so again behind it.
		wantWrong(t, "fn f(x: []) = "+put("x", "x", "x")+";", api.OK)
		wantWrong(t, "fn f(x: []) = ("+put("x", "x", "x")+") + x;", api.OK)
		wantWrong(t, "fn f() = "+put("y", "1", "("+put("y", "y", "y")+") + y")+";", api.OK)
		wantWrong(t, "fn f() = ("+put("y", "1", "("+put("y", "y", "y")+") + y")+") + y;", api.ErrName)
		wantWrong(t, "fn f() = "+put("y", put("z", "1", "z"), "y")+";", api.OK)
		wantWrong(t, "fn f() = "+put("y", put("z", "1", "z"), "z")+";", api.ErrName)
		wantWrong(t, "fn f() = "+put("y", "1", put("z", "y", "y + z"))+";", api.OK)
		// It makes no function, and no dimension.
		wantWrong(t, "fn f() = "+put("y", "1", "y(1)")+";", api.ErrName)
		wantWrong(t, "fn f(x: []) = "+put("n", "x", "reform[n](x)")+";", api.ErrName)
		// A call by a name that is let is that of the function.
		wantWrong(t, "fn g() = 1; fn f() = "+put("g", "1", "g + g()")+";", api.OK)
	}
}

func TestS2CallsOfFunctions(t *testing.T) {
	wantWrong(t, "fn f() = g();", api.ErrName)
	wantWrong(t, "fn f() = f();", api.ErrName)
	wantWrong(t, "fn f(x: []) = f(x);", api.ErrName)
	wantWrong(t, "fn f() = g(); fn g() = 1;", api.ErrName)
	wantWrong(t, "fn f(g: []) = g();", api.ErrName)
	wantWrong(t, "fn g() = 1; fn h() = g(); fn f() = h() + g();", api.OK)
	for many := range 5 {
		given := make([]string, many)
		for i := range given {
			given[i] = fmt.Sprintf("x%d: []", i)
		}
		g := "fn g(" + strings.Join(given, ", ") + ") = 1;"
		for args := range 7 {
			want := api.OK
			if args != many {
				want = api.ErrMany
			}
			wantWrong(t, program(g, "fn f() = "+callText("g", "", 0, args, "1")+";"), want)
			for _, shape := range []string{"", "[]", "[3]", "[n]"} {
				for lists := range 3 {
					want := want
					if shape != "" || lists > 0 {
						want = api.ErrForm
					}
					wantWrong(t, program(g, "fn f() = "+callText("g", shape, lists, args, "1")+";"), want)
					wantWrong(t, program(g, "fn f() = "+callText("h", shape, lists, args, "1")+";"), api.ErrName)
					// Arguments are looked at behind the call.
					if want == api.OK && args > 0 {
						want = api.ErrName
					}
					wantWrong(t, program(g, "fn f() = "+callText("g", shape, lists, args, "y")+";"), want)
				}
			}
		}
	}
}

// A name in the shape of a call must be that of a dimension of this function's parameters.
func TestS2NamesInShapes(t *testing.T) {
	wantWrong(t, "fn f(x: [n]) = reform[n](x);", api.OK)
	wantWrong(t, "fn f(x: [n m], y: [k 3]) = reform[k m 3 n n](x);", api.OK)
	wantWrong(t, "fn f(x: [n]) = reform[n m](x);", api.ErrName)
	wantWrong(t, "fn f(x: [n]) = reform[m](x);", api.ErrName)
	wantWrong(t, "fn f(x: [n]) = reform[x](x);", api.ErrName)
	wantWrong(t, "fn f(n: [3]) = reform[n](n);", api.ErrName)
	wantWrong(t, "fn f() = spread[n]{}(1);", api.ErrName)
	wantWrong(t, "fn f() = spread[3]{}(1);", api.OK)
	wantWrong(t, "fn f(x: []) = reform[1](x);", api.OK)
	wantWrong(t, "fn g(x: [n]) = x; fn f(x: [m]) = reform[n](x);", api.ErrName)
	wantWrong(t, "fn g(x: [n]) = x; fn f(x: [m]) = put[m](x, put[n](x, x));", api.ErrName)
	wantWrong(t, "fn f(x: [n]) = join{0}(x, let y = x in spread[n m]{0}(y));", api.ErrName)
}

// Each tree ahead of its kids, these in their order: the first error is told.
func TestS2Order(t *testing.T) {
	const form, many, none = "sum(1)", "max(1)", "y"
	wantWrong(t, "fn f() = "+form+" + "+many+";", api.ErrForm)
	wantWrong(t, "fn f() = "+many+" + "+form+";", api.ErrMany)
	wantWrong(t, "fn f() = "+none+" + "+form+";", api.ErrName)
	wantWrong(t, "fn f() = 1 - 2 * "+none+" - "+form+";", api.ErrName)
	wantWrong(t, "fn f() = max("+many+", "+none+");", api.ErrMany)
	wantWrong(t, "fn f() = max("+none+", "+many+");", api.ErrName)
	wantWrong(t, "fn f() = max("+form+", "+many+", 1);", api.ErrMany)
	wantWrong(t, "fn f() = sum("+none+");", api.ErrForm)
	wantWrong(t, "fn f() = let x = "+form+" in "+many+";", api.ErrForm)
	wantWrong(t, "fn f() = let x = "+many+" in "+form+";", api.ErrMany)
	wantWrong(t, "fn f() = repeat 3 x = "+form+" with "+none+";", api.ErrForm)
	wantWrong(t, "fn f() = repeat 3 x = "+none+" with "+form+";", api.ErrName)
	wantWrong(t, "fn f() = g("+form+");", api.ErrName)
	wantWrong(t, "fn f(x: [n]) = put[m]("+form+", 1);", api.ErrName)
	wantWrong(t, "fn f(x: [n]) = put[m]("+form+");", api.ErrMany)
	wantWrong(t, "fn f(x: [n]) = put[m]{}("+many+");", api.ErrForm)
	wantWrong(t, "fn g() = 1; fn f() = g{}(1);", api.ErrForm)
	wantWrong(t, "fn g() = 1; fn f() = g("+form+");", api.ErrMany)
	wantWrong(t, "fn g(x: []) = 1; fn f() = g("+form+");", api.ErrForm)
	// What is wrong with numbers alone is nothing here: it comes when the program is run.
	wantWrong(t, "fn f(x: [9 9 9 9 9 9 9], y: [9999]) = repeat 65 z = sum{9}(x) with reform[9999](y) + x;", api.OK)
}
