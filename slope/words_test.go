package slope_test

import (
	"testing"

	"adjoint/api"
	"adjoint/array"
	"adjoint/graph"
)

// do is what an operation makes of arrays that it fits.
func do(t *testing.T, op api.Op, args ...api.Array) api.Array {
	t.Helper()
	a, err := array.Do(op, args)
	if err != api.OK {
		t.Fatalf("%v of %v: %d", op, args, err)
	}
	return a
}

// entries is an array like another one, with what is told of each entry.
func entries(like api.Array, of func(i int) int64) api.Array {
	out := noughts(like.Dims)
	for i := range out.Data {
		out.Data[i] = of(i)
	}
	return out
}

// slopeByHand is the slope of what an operation makes by the words of D2; v are its arguments' values, s these' slopes.
func slopeByHand(t *testing.T, op api.Op, made api.Array, v, s []api.Array) api.Array {
	t.Helper()
	switch op.Kind {
	case api.Fill, api.Less:
		return noughts(made.Dims)
	case api.Add:
		return entries(made, func(i int) int64 { return s[0].Data[i] + s[1].Data[i] })
	case api.Sub:
		return entries(made, func(i int) int64 { return s[0].Data[i] - s[1].Data[i] })
	case api.Mul, api.Dot:
		first, second := do(t, op, s[0], v[1]), do(t, op, v[0], s[1])
		return entries(made, func(i int) int64 { return first.Data[i] + second.Data[i] })
	case api.Max:
		return entries(made, func(i int) int64 {
			if v[0].Data[i] < v[1].Data[i] {
				return s[1].Data[i]
			}
			return s[0].Data[i]
		})
	case api.Pick:
		return do(t, op, v[0], s[1], s[2])
	case api.Take, api.Put:
		return do(t, op, s[0], v[1])
	}
	return do(t, op, s...)
}

// givenByHand are what a right graph gives, and the slopes of that.
func givenByHand(t *testing.T, g api.Graph, args, slopes []api.Array) (given, changes []api.Array) {
	t.Helper()
	var values, all []api.Array
	for i, node := range g.Nodes {
		if i < graph.Params(g) {
			values, all = append(values, args[i]), append(all, slopes[i])
			continue
		}
		var v, s []api.Array
		for _, at := range node.Args {
			v, s = append(v, values[at]), append(s, all[at])
		}
		values = append(values, do(t, node.Op, v...))
		all = append(all, slopeByHand(t, node.Op, values[i], v, s))
	}
	for _, at := range g.Outs {
		given, changes = append(given, values[at]), append(changes, all[at])
	}
	return given, changes
}

// toldByHand is what each parameter is told by the words of D4: each entry is found by the slope that is 1 there, and 0 elsewhere.
func toldByHand(t *testing.T, g api.Graph, args, told []api.Array) []api.Array {
	t.Helper()
	var slopes, out []api.Array
	for _, dims := range paramDims(g) {
		slopes, out = append(slopes, noughts(dims)), append(out, noughts(dims))
	}
	for k := range slopes {
		for i := range slopes[k].Data {
			slopes[k].Data[i] = 1
			_, changes := givenByHand(t, g, args, slopes)
			out[k].Data[i] = inner(t, told, changes)
			slopes[k].Data[i] = 0
		}
	}
	return out
}

// byHand holds both graphs against the words of D2 to D5.
func byHand(t *testing.T, g api.Graph, args, slopes, told []api.Array) {
	t.Helper()
	given, changes := givenByHand(t, g, args, slopes)
	if got := eval(t, g, args); !sameArrays(got, given) {
		t.Fatalf("%s with %v: %v comes, not %v", show(g), args, got, given)
	}
	wantAhead(t, g, args, slopes, changes...)
	wantBackward(t, g, args, told, toldByHand(t, g, args, told)...)
	if t.Failed() {
		t.FailNow()
	}
}
