package text_test

import (
	"fmt"
	"slices"
	"strings"
	"testing"

	"adjoint/api"
	"adjoint/text"
)

func num(n int64) api.Tree { return api.Tree{Kind: api.TreeNumber, Number: n} }

func name(s string) api.Tree { return api.Tree{Kind: api.TreeName, Name: s} }

// call is a call without a shape and lists.
func call(s string, kids ...api.Tree) api.Tree {
	return api.Tree{Kind: api.TreeCall, Name: s, Kids: kids}
}

// shaped is a call with a shape.
func shaped(t api.Tree, dims ...api.Dim) api.Tree {
	t.Shaped, t.Shape = true, dims
	return t
}

// listed is a call with lists.
func listed(t api.Tree, lists ...[]int) api.Tree {
	t.Lists = lists
	return t
}

func two(sign string, a, b api.Tree) api.Tree {
	return api.Tree{Kind: api.TreeTwo, Name: sign, Kids: []api.Tree{a, b}}
}

func let(s string, a, b api.Tree) api.Tree {
	return api.Tree{Kind: api.TreeLet, Name: s, Kids: []api.Tree{a, b}}
}

func repeat(n int64, s string, a, b api.Tree) api.Tree {
	return api.Tree{Kind: api.TreeRepeat, Number: n, Name: s, Kids: []api.Tree{a, b}}
}

// fn is a function.
func fn(s string, body api.Tree, given ...api.Given) api.Func {
	return api.Func{Name: s, Given: given, Body: body}
}

// given is a parameter.
func given(s string, dims ...api.Dim) api.Given { return api.Given{Name: s, Dims: dims} }

// dim is a dimension with a name, or with a number.
func dim[T string | int](of T) api.Dim {
	switch x := any(of).(type) {
	case string:
		return api.Dim{Name: x}
	case int:
		return api.Dim{Size: x}
	}
	return api.Dim{}
}

// program is a program of some functions.
func program(p ...api.Func) []api.Func { return p }

// only is the program `fn f() = body;`.
func only(body api.Tree) []api.Func { return program(fn("f", body)) }

// show tells a value in full, nil and empty lists alike.
func show(x any) string { return fmt.Sprintf("%+v", x) }

// cut is the beginning of what may be very long.
func cut(s string) string {
	if len(s) > 200 {
		return fmt.Sprintf("%.200s.. (%d bytes)", s, len(s))
	}
	return s
}

// wantTokens: Tokens tells these.
func wantTokens(t *testing.T, s string, want ...api.Token) {
	t.Helper()
	got, f := text.Tokens(s)
	if f != (api.Fault{}) || !slices.Equal(got, want) {
		t.Errorf("Tokens of %q: %s, %v comes, not %s", cut(s), cut(show(got)), f, cut(show(want)))
	}
}

// wantBad: Tokens and Read tell this fault, and nothing else.
func wantBad(t *testing.T, s string, err api.Errno, at int) {
	t.Helper()
	want := api.Fault{Err: err, At: at}
	if got, f := text.Tokens(s); f != want || len(got) > 0 {
		t.Errorf("Tokens of %q: %d tokens, %v comes, not %v", cut(s), len(got), f, want)
	}
	wantFault(t, s, err, at)
}

// wantRead: Read tells this program; and what is printed of it is read again as it was.
func wantRead(t *testing.T, s string, want []api.Func) {
	t.Helper()
	got, f := text.Read(s)
	if f != (api.Fault{}) || show(got) != show(want) {
		t.Errorf("Read of %q: %s, %v comes, not %s", cut(s), cut(show(got)), f, cut(show(want)))
		return
	}
	printed, err := text.Print(got)
	if err != api.OK {
		t.Errorf("Print of %q: %d", cut(s), err)
		return
	}
	if again, f := text.Read(printed); f != (api.Fault{}) || show(again) != show(want) {
		t.Errorf("Read of %q: %s, %v comes, not %s", cut(printed), cut(show(again)), f, cut(show(want)))
	}
}

// wantBody: the expr is read as this tree.
func wantBody(t *testing.T, expr string, want api.Tree) {
	t.Helper()
	wantRead(t, "fn f() = "+expr+";", only(want))
}

// wantFault: Read tells this fault, and nothing else.
func wantFault(t *testing.T, s string, err api.Errno, at int) {
	t.Helper()
	want := api.Fault{Err: err, At: at}
	if got, f := text.Read(s); f != want || len(got) > 0 {
		t.Errorf("Read of %q: %d functions, %v comes, not %v", cut(s), len(got), f, want)
	}
}

// wantForm: in s a @ stands ahead of where ErrForm is told (of s without it).
func wantForm(t *testing.T, s string) {
	t.Helper()
	at := strings.Index(s, "@")
	if at < 0 {
		t.Fatalf("%q tells no place", s)
	}
	wantFault(t, s[:at]+s[at+1:], api.ErrForm, at)
}

// wantPrint: Print tells this text; and it is read as what was printed.
func wantPrint(t *testing.T, p []api.Func, want string) {
	t.Helper()
	got, err := text.Print(p)
	if err != api.OK || got != want {
		t.Errorf("Print of %s: %q, %d comes, not %q", cut(show(p)), cut(got), err, cut(want))
		return
	}
	if again, f := text.Read(got); f != (api.Fault{}) || show(again) != show(p) {
		t.Errorf("Read of %q: %s, %v comes, not %s", cut(got), cut(show(again)), f, cut(show(p)))
	}
}

// wantExpr: a body is printed as this.
func wantExpr(t *testing.T, body api.Tree, want string) {
	t.Helper()
	wantPrint(t, only(body), "fn f() = "+want+";\n")
}

// wantErr: Print tells this error, and nothing else.
func wantErr(t *testing.T, p []api.Func, want api.Errno) {
	t.Helper()
	if got, err := text.Print(p); err != want || got != "" {
		t.Errorf("Print of %s: %q, %d comes, not %d", cut(show(p)), cut(got), err, want)
	}
}

// times is a text so many times.
func times(s string, many int) string { return strings.Repeat(s, many) }

// readBody tells the bodies that Read finds, and its fault.
func readBody(s string) (string, api.Fault) {
	p, f := text.Read(s)
	var out string
	for _, f := range p {
		out += show(f.Body)
	}
	return out, f
}
