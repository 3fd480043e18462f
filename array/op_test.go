package array_test

import (
	"testing"

	"adjoint/api"
	"adjoint/array"
)

// full is an operation of a kind with something in each field.
func full(kind int) api.Op {
	return api.Op{Kind: kind, Dims: l(1, 2), At: l(3), Lo: l(4), Hi: l(5, 6), Step: l(7), Value: -8}
}

// named are the fields that the table (and chapter 5, of a Param) names for a kind, by their first letters.
func named(kind int) string {
	switch kind {
	case api.Param, api.Spread:
		return "DA"
	case api.Fill:
		return "DV"
	case api.Sum, api.Turn, api.Flip, api.Join:
		return "A"
	case api.Reform, api.Put:
		return "D"
	case api.Cut, api.Pad:
		return "LHS"
	case api.Dot:
		return "ASLH"
	}
	return ""
}

// with is an operation in which one field is another one's.
func with(op api.Op, field rune, other api.Op) api.Op {
	switch field {
	case 'D':
		op.Dims = other.Dims
	case 'A':
		op.At = other.At
	case 'L':
		op.Lo = other.Lo
	case 'H':
		op.Hi = other.Hi
	case 'S':
		op.Step = other.Step
	case 'V':
		op.Value = other.Value
	}
	return op
}

// manyKinds are the kinds of the table, a Param, and some that are none.
func manyKinds() []int { return append(kinds(), api.Param, 0, -1, 20, most, least) }

func TestA2Plain(t *testing.T) {
	for _, kind := range manyKinds() {
		want := api.Op{Kind: kind}
		for _, field := range named(kind) {
			want = with(want, field, full(kind))
		}
		if got := array.Plain(full(kind)); !sameOp(got, want) {
			t.Errorf("Plain of %v: %v comes, not %v", full(kind), got, want)
		}
		if got := array.Plain(api.Op{Kind: kind}); !sameOp(got, api.Op{Kind: kind}) {
			t.Errorf("Plain of nothing but the kind %d: %v", kind, got)
		}
	}
}

func TestA2Same(t *testing.T) {
	others := []api.Op{
		{Dims: l(1, 3), At: l(4), Lo: l(5), Hi: l(5, 7), Step: l(8), Value: 8},
		{Dims: l(1), At: l(3, 3), Lo: l(), Hi: l(5), Step: l(7, 7), Value: 0},
		{},
		{Dims: l(2, 1), At: l(0), Lo: l(0), Hi: l(6, 5), Step: l(0), Value: -7},
	}
	for _, kind := range manyKinds() {
		a := full(kind)
		if !array.Same(a, full(kind)) {
			t.Errorf("%v is not the same as itself", a)
		}
		for _, other := range others {
			for _, field := range "DALHSV" {
				b := with(a, field, other)
				means := false
				for _, name := range named(kind) {
					means = means || name == field
				}
				if array.Same(a, b) == means || array.Same(b, a) == means {
					t.Errorf("Same of %v and %v: %t", a, b, !means)
				}
			}
		}
		for _, other := range manyKinds() {
			b := full(other)
			if array.Same(a, b) != (kind == other) {
				t.Errorf("Same of the kinds %d and %d", kind, other)
			}
			if array.Same(api.Op{Kind: kind}, api.Op{Kind: other}) != (kind == other) {
				t.Errorf("Same of the bare kinds %d and %d", kind, other)
			}
		}
	}
}
