package array_test

import (
	"slices"
	"testing"

	"adjoint/api"
	"adjoint/array"
)

// asked is an operation on dimensions, and what must come.
type asked struct {
	op   api.Op
	args [][]int
	want []int
	err  api.Errno
}

func askDims(t *testing.T, all ...asked) {
	t.Helper()
	for _, c := range all {
		wantDims(t, c.op, c.args, c.want, c.err)
	}
}

// ErrKind is told of what is no kind of the table, whatever else is wrong.
func TestA3Kind(t *testing.T) {
	for _, kind := range l(0, api.Param, api.Put+1, -1, 100, most, least) {
		for _, args := range [][][]int{nil, lists(l(2)), lists(l(2), l(2)), lists(l(-1)), lists(ones(7), nil, nil)} {
			wantDims(t, api.Op{Kind: kind, Dims: l(-1)}, args, nil, api.ErrKind)
		}
		wantDo(t, api.Op{Kind: kind}, api.Array{}, api.ErrKind)
		wantDo(t, api.Op{Kind: kind}, api.Array{}, api.ErrKind, of(l(2), 1))
	}
}

// ErrMany is told of another number of arguments, whatever is wrong with them, and with the operation.
func TestA3Many(t *testing.T) {
	for _, kind := range kinds() {
		op := api.Op{Kind: kind, Dims: l(-1), At: l(-1), Lo: l(-1)}
		for n := range 6 {
			if n == many(kind) || kind == api.Join && n > 1 {
				continue
			}
			wantDims(t, op, slices.Repeat(lists(l(2)), n), nil, api.ErrMany)
			wantDims(t, op, slices.Repeat(lists(l(-2)), n), nil, api.ErrMany)
			wantDo(t, op, api.Array{}, api.ErrMany, slices.Repeat([]api.Array{one(1)}, n)...)
			wantDo(t, op, api.Array{}, api.ErrMany, slices.Repeat([]api.Array{of(ones(7))}, n)...)
		}
	}
}

// What Size says of the first argument of which it says something is told ahead of what the table says.
func TestA3Arguments(t *testing.T) {
	for _, kind := range kinds() {
		op := api.Op{Kind: kind, Dims: l(-1), At: l(-1), Lo: l(-1)}
		for bad := range many(kind) {
			args := slices.Repeat(lists(l(2)), many(kind))
			for _, c := range []asked{{args: lists(ones(7)), err: api.ErrRank}, {args: lists(l(-1)), err: api.ErrRange},
				{args: lists(l(2, 4097)), err: api.ErrRange}, {args: lists(l(4096, 17)), err: api.ErrMuch}} {
				args[bad] = c.args[0]
				wantDims(t, op, args, nil, c.err)
				// What is wrong further back is not told.
				for k := bad + 1; k < len(args); k++ {
					args[k] = l(4096, 4096)
				}
				wantDims(t, op, args, nil, c.err)
			}
		}
	}
	wantDims(t, api.Op{Kind: api.Join, At: l(0)}, lists(l(2), l(2), l(-1), ones(7)), nil, api.ErrRange)
}

func TestA3Fill(t *testing.T) {
	fill := func(dims ...int) api.Op { return api.Op{Kind: api.Fill, Dims: dims, At: l(9), Lo: l(9)} }
	askDims(t,
		asked{fill(), nil, nil, api.OK},
		asked{fill(2, 3), nil, l(2, 3), api.OK},
		asked{fill(4096, 16), nil, l(4096, 16), api.OK},
		asked{fill(4096, 4096, 0), nil, l(4096, 4096, 0), api.OK},
		asked{fill(ones(6)...), nil, ones(6), api.OK},
		asked{fill(ones(7)...), nil, nil, api.ErrRank},
		asked{fill(-1), nil, nil, api.ErrRange},
		asked{fill(4097), nil, nil, api.ErrRange},
		asked{fill(4096, 17), nil, nil, api.ErrMuch},
		asked{fill(slices.Repeat(l(4096), 6)...), nil, nil, api.ErrMuch},
	)
}

func TestA3EntryByEntry(t *testing.T) {
	for _, kind := range l(api.Add, api.Sub, api.Mul, api.Max, api.Less, api.Pick) {
		n := many(kind)
		op := api.Op{Kind: kind, Dims: l(7), At: l(7), Lo: l(7)}
		for _, dims := range lists(nil, l(1), l(0), l(2, 3), l(3, 2), l(0, 4096, 4096), ones(6), l(4096, 16)) {
			wantDims(t, op, slices.Repeat(lists(dims), n), dims, api.OK)
			for k := range n {
				for _, other := range lists(nil, l(1), l(6), l(2, 3, 1), l(0, 1), l(2, 2)) {
					args := slices.Repeat(lists(dims), n)
					args[k] = other
					if !slices.Equal(dims, other) {
						wantDims(t, op, args, nil, api.ErrShape)
					}
				}
			}
		}
	}
}

func TestA3Spread(t *testing.T) {
	spread := func(dims, at []int) api.Op { return api.Op{Kind: api.Spread, Dims: dims, At: at, Lo: l(9)} }
	askDims(t,
		asked{spread(nil, nil), lists(nil), nil, api.OK},
		asked{spread(l(2, 3), nil), lists(nil), l(2, 3), api.OK},
		asked{spread(l(2, 3), l(0, 1)), lists(l(2, 3)), l(2, 3), api.OK},
		asked{spread(l(2, 5, 3), l(0, 2)), lists(l(2, 3)), l(2, 5, 3), api.OK},
		asked{spread(l(2, 0, 3), l(0, 2)), lists(l(2, 3)), l(2, 0, 3), api.OK},
		asked{spread(l(0, 4096, 4096), l(0)), lists(l(0)), l(0, 4096, 4096), api.OK},
		asked{spread(l(2, 3), nil), lists(l(2)), nil, api.ErrShape},
		asked{spread(l(2, 3), l(1)), lists(l(2)), nil, api.ErrShape},
		asked{spread(l(2, 3), l(0)), lists(nil), nil, api.ErrShape},
		asked{spread(l(2, 3), l(2)), lists(l(2)), nil, api.ErrShape},
		asked{spread(l(2, 3), l(-1)), lists(l(3)), nil, api.ErrShape},
		asked{spread(l(3, 2), l(1, 0)), lists(l(2, 3)), nil, api.ErrShape},
		asked{spread(l(2, 3), l(0)), lists(l(1)), nil, api.ErrShape},
		asked{spread(ones(7), l(9)), lists(l(2)), nil, api.ErrRank},
		asked{spread(l(2, -1), l(9)), lists(l(2)), nil, api.ErrRange},
		asked{spread(l(4096, 17), l(9)), lists(l(2)), nil, api.ErrMuch},
	)
}

func TestA3Sum(t *testing.T) {
	sum := func(at ...int) api.Op { return api.Op{Kind: api.Sum, At: at, Dims: l(9), Lo: l(9)} }
	askDims(t,
		asked{sum(), lists(nil), nil, api.OK},
		asked{sum(), lists(l(2, 3)), l(2, 3), api.OK},
		asked{sum(0), lists(l(2, 3)), l(3), api.OK},
		asked{sum(1), lists(l(2, 3)), l(2), api.OK},
		asked{sum(0, 1), lists(l(2, 3)), nil, api.OK},
		asked{sum(0, 2), lists(l(2, 3, 4)), l(3), api.OK},
		asked{sum(0), lists(l(0, 3)), l(3), api.OK},
		asked{sum(1), lists(l(0, 3)), l(0), api.OK},
		asked{sum(0, 1, 2, 3, 4, 5), lists(l(1, 2, 3, 4, 5, 0)), nil, api.OK},
		asked{sum(0), lists(nil), nil, api.ErrShape},
		asked{sum(1, 0), lists(l(2, 3)), nil, api.ErrShape},
		asked{sum(0, 0), lists(l(2, 3)), nil, api.ErrShape},
		asked{sum(2), lists(l(2, 3)), nil, api.ErrShape},
		asked{sum(-1), lists(l(2, 3)), nil, api.ErrShape},
		asked{sum(0, 1, 2), lists(l(2, 3)), nil, api.ErrShape},
		asked{sum(least), lists(l(2, 3)), nil, api.ErrShape},
		asked{sum(most), lists(l(2, 3)), nil, api.ErrShape},
		// What would be made is no array, though its argument is one.
		asked{sum(0), lists(l(0, 4096, 17)), nil, api.ErrMuch},
		asked{sum(2), lists(l(4096, 4096, 0)), nil, api.ErrMuch},
	)
}

func TestA3TurnAndFlip(t *testing.T) {
	turn := func(at ...int) api.Op { return api.Op{Kind: api.Turn, At: at, Dims: l(9), Lo: l(9)} }
	flip := func(at ...int) api.Op { return api.Op{Kind: api.Flip, At: at, Dims: l(9), Lo: l(9)} }
	askDims(t,
		asked{turn(), lists(nil), nil, api.OK},
		asked{turn(1, 0), lists(l(2, 3)), l(3, 2), api.OK},
		asked{turn(1, 2, 0), lists(l(2, 3, 4)), l(3, 4, 2), api.OK},
		asked{turn(1, 0), lists(l(0, 3)), l(3, 0), api.OK},
		asked{turn(), lists(l(2)), nil, api.ErrShape},
		asked{turn(0), lists(nil), nil, api.ErrShape},
		asked{turn(0, 0), lists(l(2, 3)), nil, api.ErrShape},
		asked{turn(0, 2), lists(l(2, 3)), nil, api.ErrShape},
		asked{turn(0, 1, 2), lists(l(2, 3)), nil, api.ErrShape},
		asked{turn(-1, 0), lists(l(2, 3)), nil, api.ErrShape},
		asked{flip(), lists(nil), nil, api.OK},
		asked{flip(), lists(l(2, 3)), l(2, 3), api.OK},
		asked{flip(0, 1), lists(l(2, 3)), l(2, 3), api.OK},
		asked{flip(0), lists(l(0, 4096, 4096)), l(0, 4096, 4096), api.OK},
		asked{flip(0), lists(nil), nil, api.ErrShape},
		asked{flip(1, 0), lists(l(2, 3)), nil, api.ErrShape},
		asked{flip(1, 1), lists(l(2, 3)), nil, api.ErrShape},
		asked{flip(2), lists(l(2, 3)), nil, api.ErrShape},
		asked{flip(-1), lists(l(2, 3)), nil, api.ErrShape},
	)
}

func TestA3Reform(t *testing.T) {
	reform := func(dims ...int) api.Op { return api.Op{Kind: api.Reform, Dims: dims, At: l(9), Lo: l(9)} }
	askDims(t,
		asked{reform(), lists(nil), nil, api.OK},
		asked{reform(), lists(ones(6)), nil, api.OK},
		asked{reform(1, 1), lists(nil), l(1, 1), api.OK},
		asked{reform(6), lists(l(2, 3)), l(6), api.OK},
		asked{reform(4, 3), lists(l(6, 2)), l(4, 3), api.OK},
		asked{reform(5, 0), lists(l(0, 3)), l(5, 0), api.OK},
		asked{reform(0), lists(l(4096, 4096, 0)), l(0), api.OK},
		asked{reform(5), lists(l(2, 3)), nil, api.ErrShape},
		asked{reform(7), lists(l(2, 3)), nil, api.ErrShape},
		asked{reform(), lists(l(2)), nil, api.ErrShape},
		asked{reform(), lists(l(0)), nil, api.ErrShape},
		asked{reform(0), lists(nil), nil, api.ErrShape},
		asked{reform(ones(7)...), lists(l(2)), nil, api.ErrRank},
		asked{reform(-2, -3), lists(l(2, 3)), nil, api.ErrRange},
		asked{reform(8192), lists(l(4096, 2)), nil, api.ErrRange},
		asked{reform(4096, 17), lists(l(2)), nil, api.ErrMuch},
	)
}

func TestA3Cut(t *testing.T) {
	cut := func(lo, hi, step []int) api.Op {
		return api.Op{Kind: api.Cut, Lo: lo, Hi: hi, Step: step, Dims: l(9), At: l(9)}
	}
	askDims(t,
		asked{cut(nil, nil, nil), lists(nil), nil, api.OK},
		asked{cut(l(0, 1), l(2, 3), l(2, 1)), lists(l(2, 3)), l(1, 2), api.OK},
		asked{cut(l(1), l(10), l(4)), lists(l(10)), l(3), api.OK},
		asked{cut(l(2), l(2), l(1)), lists(l(2)), l(0), api.OK},
		asked{cut(l(0), l(0), l(4096)), lists(l(0)), l(0), api.OK},
		asked{cut(l(0), l(1), nil), lists(l(2)), nil, api.ErrShape},
		asked{cut(l(0, 0), l(1), l(1)), lists(l(2)), nil, api.ErrShape},
		asked{cut(l(0), nil, l(1)), lists(l(2)), nil, api.ErrShape},
		asked{cut(nil, nil, l(1)), lists(nil), nil, api.ErrShape},
		asked{cut(l(-1), l(1), l(1)), lists(l(2)), nil, api.ErrRange},
		asked{cut(l(0), l(3), l(1)), lists(l(2)), nil, api.ErrRange},
		asked{cut(l(2), l(1), l(1)), lists(l(2)), nil, api.ErrRange},
		asked{cut(l(0), l(1), l(0)), lists(l(2)), nil, api.ErrRange},
		asked{cut(l(0), l(1), l(4097)), lists(l(2)), nil, api.ErrRange},
		asked{cut(l(-1), l(1, 1), l(1)), lists(l(2)), nil, api.ErrShape},
		asked{cut(l(0, 0, 0), l(4096, 4096, 0), l(1, 1, 1)), lists(l(4096, 4096, 0)), l(4096, 4096, 0), api.OK},
	)
}

func TestA3Pad(t *testing.T) {
	pad := func(lo, hi, step []int) api.Op {
		return api.Op{Kind: api.Pad, Lo: lo, Hi: hi, Step: step, Dims: l(9), At: l(9)}
	}
	askDims(t,
		asked{pad(nil, nil, nil), lists(nil), nil, api.OK},
		asked{pad(l(0), l(0), l(1)), lists(l(5)), l(5), api.OK},
		asked{pad(l(1), l(2), l(1)), lists(l(5)), l(8), api.OK},
		asked{pad(l(1), l(2), l(3)), lists(l(5)), l(16), api.OK},
		asked{pad(l(1), l(2), l(4096)), lists(l(1)), l(4), api.OK},
		asked{pad(l(1), l(2), l(4096)), lists(l(0)), l(3), api.OK},
		asked{pad(l(0), l(0), l(7)), lists(l(0)), l(0), api.OK},
		asked{pad(l(4096), l(0), l(1)), lists(l(0)), l(4096), api.OK},
		asked{pad(l(0), l(4096), l(1)), lists(l(0)), l(4096), api.OK},
		asked{pad(l(0), l(0), l(4095)), lists(l(2)), l(4096), api.OK},
		asked{pad(l(1, 0), l(0, 2), l(2, 1)), lists(l(2, 3)), l(4, 5), api.OK},
		asked{pad(l(0), l(0), nil), lists(l(2)), nil, api.ErrShape},
		asked{pad(l(0, 0), l(0), l(1)), lists(l(2)), nil, api.ErrShape},
		asked{pad(l(0), l(0, 0), l(1)), lists(l(2)), nil, api.ErrShape},
		asked{pad(l(0), l(0), l(1, 1)), lists(l(2)), nil, api.ErrShape},
		asked{pad(nil, nil, l(1)), lists(nil), nil, api.ErrShape},
		asked{pad(l(-1), l(0), l(1)), lists(l(2)), nil, api.ErrRange},
		asked{pad(l(0), l(-1), l(1)), lists(l(2)), nil, api.ErrRange},
		asked{pad(l(0), l(0), l(0)), lists(l(2)), nil, api.ErrRange},
		asked{pad(l(0), l(0), l(0)), lists(l(0)), nil, api.ErrRange},
		asked{pad(l(0), l(0), l(-1)), lists(l(2)), nil, api.ErrRange},
		asked{pad(l(4097), l(0), l(1)), lists(l(0)), nil, api.ErrRange},
		asked{pad(l(0), l(4097), l(1)), lists(l(0)), nil, api.ErrRange},
		asked{pad(l(0), l(0), l(4097)), lists(l(1)), nil, api.ErrRange},
		asked{pad(l(most), l(most), l(most)), lists(l(2)), nil, api.ErrRange},
		asked{pad(l(least), l(0), l(1)), lists(l(2)), nil, api.ErrRange},
		// Several errors: the lists, then their numbers, then what would be made.
		asked{pad(l(-1), l(0, 0), l(1)), lists(l(2)), nil, api.ErrShape},
		asked{pad(l(0, 0), l(0, 0), l(4096, 0)), lists(l(2, 2)), nil, api.ErrRange},
		asked{pad(l(0), l(0), l(4096)), lists(l(2)), nil, api.ErrRange},
		asked{pad(l(1), l(4096), l(1)), lists(l(0)), nil, api.ErrRange},
		asked{pad(l(256, 0), l(0, 0), l(1, 1)), lists(l(1, 256)), nil, api.ErrMuch},
		asked{pad(l(4096, 17), l(0, 0), l(1, 1)), lists(l(0, 0)), nil, api.ErrMuch},
	)
}

func TestA3Dot(t *testing.T) {
	dot := func(at, step, lo, hi []int) api.Op {
		return api.Op{Kind: api.Dot, At: at, Step: step, Lo: lo, Hi: hi, Dims: l(9)}
	}
	askDims(t,
		asked{dot(nil, nil, nil, nil), lists(nil, nil), nil, api.OK},
		asked{dot(nil, nil, nil, nil), lists(l(2), l(3, 4)), l(2, 3, 4), api.OK},
		asked{dot(l(1), l(0), nil, nil), lists(l(2, 3), l(3, 4)), l(2, 4), api.OK},
		asked{dot(l(0), l(0), nil, nil), lists(l(3), l(3)), nil, api.OK},
		asked{dot(l(2), l(0), l(0), l(2)), lists(l(7, 2, 3), l(3, 4, 7)), l(7, 2, 4), api.OK},
		asked{dot(nil, nil, l(1, 0), l(2, 0)), lists(l(5, 6, 2), l(5, 4, 6)), l(6, 5, 2, 4), api.OK},
		asked{dot(l(2, 0), l(0, 1), nil, nil), lists(l(2, 3, 4), l(4, 2, 5)), l(3, 5), api.OK},
		asked{dot(l(1), l(0), nil, nil), lists(l(2, 0), l(0, 4)), l(2, 4), api.OK},
		asked{dot(l(1), l(1), nil, nil), lists(l(0, 5), l(4, 5)), l(0, 4), api.OK},
		asked{dot(l(1, 2, 3, 4, 5), l(0, 1, 2, 3, 4), nil, nil), lists(append(l(0), slices.Repeat(l(4096), 5)...), append(slices.Repeat(l(4096), 5), 0)), l(0, 0), api.OK},
		asked{dot(nil, nil, nil, nil), lists(ones(3), ones(3)), ones(6), api.OK},
		asked{dot(l(0), nil, nil, nil), lists(l(2), l(2)), nil, api.ErrShape},
		asked{dot(nil, l(0), nil, nil), lists(l(2), l(2)), nil, api.ErrShape},
		asked{dot(nil, nil, l(0), nil), lists(l(2), l(2)), nil, api.ErrShape},
		asked{dot(nil, nil, nil, l(0)), lists(l(2), l(2)), nil, api.ErrShape},
		asked{dot(l(1), l(0), nil, nil), lists(l(2), l(2)), nil, api.ErrShape},
		asked{dot(l(0), l(1), nil, nil), lists(l(2), l(2)), nil, api.ErrShape},
		asked{dot(l(-1), l(0), nil, nil), lists(l(2), l(2)), nil, api.ErrShape},
		asked{dot(l(0), l(-1), nil, nil), lists(l(2), l(2)), nil, api.ErrShape},
		asked{dot(nil, nil, l(1), l(0)), lists(l(2), l(2)), nil, api.ErrShape},
		asked{dot(nil, nil, l(0), l(1)), lists(l(2), l(2)), nil, api.ErrShape},
		asked{dot(nil, nil, l(least), l(0)), lists(l(2), l(2)), nil, api.ErrShape},
		asked{dot(nil, nil, l(0), l(most)), lists(l(2), l(2)), nil, api.ErrShape},
		asked{dot(l(0, 0), l(0, 1), nil, nil), lists(l(2, 2), l(2, 2)), nil, api.ErrShape},
		asked{dot(l(0, 1), l(0, 0), nil, nil), lists(l(2, 2), l(2, 2)), nil, api.ErrShape},
		asked{dot(nil, nil, l(0, 0), l(0, 1)), lists(l(2, 2), l(2, 2)), nil, api.ErrShape},
		asked{dot(nil, nil, l(0, 1), l(0, 0)), lists(l(2, 2), l(2, 2)), nil, api.ErrShape},
		asked{dot(l(0), l(0), l(0), l(1)), lists(l(2, 2), l(2, 2)), nil, api.ErrShape},
		asked{dot(l(0), l(0), l(1), l(0)), lists(l(2, 2), l(2, 2)), nil, api.ErrShape},
		asked{dot(l(0), l(0), nil, nil), lists(l(2), l(3)), nil, api.ErrShape},
		asked{dot(nil, nil, l(0), l(0)), lists(l(2), l(3)), nil, api.ErrShape},
		asked{dot(l(0, 1), l(0, 1), nil, nil), lists(l(2, 3), l(3, 2)), nil, api.ErrShape},
		asked{dot(l(0), l(0), nil, nil), lists(nil, nil), nil, api.ErrShape},
		asked{dot(ones(9), ones(9), nil, nil), lists(l(2, 2), l(2, 2)), nil, api.ErrShape},
		// What would be made: too many dimensions, too many entries.
		asked{dot(nil, nil, nil, nil), lists(ones(3), ones(4)), nil, api.ErrRank},
		asked{dot(nil, nil, nil, nil), lists(l(4096), l(17)), nil, api.ErrMuch},
		asked{dot(nil, nil, nil, nil), lists(slices.Repeat(l(4), 6), slices.Repeat(l(4), 6)), nil, api.ErrRank},
		asked{dot(l(0), l(0), nil, nil), lists(l(0, 4096), l(0, 4096)), nil, api.ErrMuch},
	)
}

func TestA3Join(t *testing.T) {
	join := func(at ...int) api.Op { return api.Op{Kind: api.Join, At: at, Dims: l(9), Lo: l(9)} }
	askDims(t,
		asked{join(0), lists(l(3)), l(3), api.OK},
		asked{join(0), lists(l(3), l(4)), l(7), api.OK},
		asked{join(1), lists(l(3, 4), l(3, 0), l(3, 2)), l(3, 6), api.OK},
		asked{join(1), lists(l(2, 3, 4), l(2, 1, 4)), l(2, 4, 4), api.OK},
		asked{join(0), lists(l(0), l(0)), l(0), api.OK},
		asked{join(2), lists(l(4096, 4096, 0), l(4096, 4096, 0)), l(4096, 4096, 0), api.OK},
		asked{join(0), lists(l(4095), l(1)), l(4096), api.OK},
		asked{join(), lists(l(3), l(4)), nil, api.ErrShape},
		asked{join(0, 0), lists(l(3), l(4)), nil, api.ErrShape},
		asked{join(0, 1), lists(l(3, 2), l(4, 2)), nil, api.ErrShape},
		asked{join(0), lists(nil, nil), nil, api.ErrShape},
		asked{join(1), lists(l(3), l(4)), nil, api.ErrShape},
		asked{join(1), lists(l(3), l(3, 2)), nil, api.ErrShape},
		asked{join(-1), lists(l(3), l(4)), nil, api.ErrShape},
		asked{join(most), lists(l(3), l(4)), nil, api.ErrShape},
		asked{join(least), lists(l(3), l(4)), nil, api.ErrShape},
		asked{join(0), lists(l(3), nil), nil, api.ErrShape},
		asked{join(0), lists(l(3), l(3, 1)), nil, api.ErrShape},
		asked{join(0), lists(l(3, 2), l(3)), nil, api.ErrShape},
		asked{join(1), lists(l(3, 2), l(3)), nil, api.ErrShape},
		asked{join(0), lists(l(3, 2), l(3, 1)), nil, api.ErrShape},
		asked{join(1), lists(l(3, 2), l(2, 2)), nil, api.ErrShape},
		asked{join(1), lists(l(2, 3, 4), l(2, 3, 4), l(2, 3, 5)), nil, api.ErrShape},
		asked{join(1), lists(l(2, 3, 4), l(1, 3, 4)), nil, api.ErrShape},
		asked{join(0), lists(l(0), l(0, 0)), nil, api.ErrShape},
		asked{join(0), lists(l(4095), l(2)), nil, api.ErrRange},
		asked{join(0), lists(l(4096, 16), l(1, 16)), nil, api.ErrRange},
		asked{join(1), lists(l(4096, 16), l(4096, 1)), nil, api.ErrMuch},
		asked{join(0), lists(l(4096, 0), l(1, 0)), nil, api.ErrRange},
	)
}

func TestA3Take(t *testing.T) {
	take := api.Op{Kind: api.Take, Dims: l(9), At: l(9), Lo: l(9)}
	askDims(t,
		asked{take, lists(l(7), nil), nil, api.OK},
		asked{take, lists(l(7, 2), nil), l(2), api.OK},
		asked{take, lists(l(7), l(3, 4)), l(3, 4), api.OK},
		asked{take, lists(l(7, 2), l(3, 4)), l(3, 4, 2), api.OK},
		asked{take, lists(l(0, 2), l(3)), l(3, 2), api.OK},
		asked{take, lists(l(7, 0), l(3)), l(3, 0), api.OK},
		asked{take, lists(l(7, 2), l(0)), l(0, 2), api.OK},
		asked{take, lists(l(0, 4096, 4096), l(0)), l(0, 4096, 4096), api.OK},
		asked{take, lists(nil, nil), nil, api.ErrShape},
		asked{take, lists(nil, l(3)), nil, api.ErrShape},
		asked{take, lists(ones(4), ones(4)), nil, api.ErrRank},
		asked{take, lists(l(1, 256), l(257)), nil, api.ErrMuch},
		asked{take, lists(l(0, 4096, 17), nil), nil, api.ErrMuch},
	)
}

func TestA3Put(t *testing.T) {
	put := func(dims ...int) api.Op { return api.Op{Kind: api.Put, Dims: dims, At: l(9), Lo: l(9)} }
	askDims(t,
		asked{put(5), lists(nil, nil), l(5), api.OK},
		asked{put(5), lists(l(3), nil), l(5, 3), api.OK},
		asked{put(5), lists(l(3), l(3)), l(5), api.OK},
		asked{put(5), lists(l(3, 4, 2), l(3, 4)), l(5, 2), api.OK},
		asked{put(5), lists(l(3, 4, 2), l(3)), l(5, 4, 2), api.OK},
		asked{put(0), lists(l(3, 4), l(3)), l(0, 4), api.OK},
		asked{put(5), lists(l(0, 4), l(0)), l(5, 4), api.OK},
		asked{put(5), lists(l(3, 0), l(3)), l(5, 0), api.OK},
		asked{put(4096), lists(l(3, 0), l(3)), l(4096, 0), api.OK},
		asked{put(0), lists(l(0, 4096, 4096), l(0)), l(0, 4096, 4096), api.OK},
		asked{put(), lists(l(3), l(3)), nil, api.ErrShape},
		asked{put(5, 1), lists(l(3), l(3)), nil, api.ErrShape},
		asked{put(5), lists(nil, l(1)), nil, api.ErrShape},
		asked{put(5), lists(l(3), l(3, 1)), nil, api.ErrShape},
		asked{put(5), lists(l(3, 4), l(4)), nil, api.ErrShape},
		asked{put(5), lists(l(3, 4), l(3, 3)), nil, api.ErrShape},
		asked{put(5), lists(l(3, 4), l(2, 4)), nil, api.ErrShape},
		asked{put(-1), lists(l(3), l(4)), nil, api.ErrShape},
		asked{put(-1), lists(l(3), l(3)), nil, api.ErrRange},
		asked{put(4097), lists(l(3, 0), l(3)), nil, api.ErrRange},
		asked{put(5), lists(ones(6), nil), nil, api.ErrRank},
		asked{put(257), lists(l(1, 256), l(1)), nil, api.ErrMuch},
		asked{put(1), lists(l(0, 4096, 17), l(0)), nil, api.ErrMuch},
	)
}

// Dims and Do agree on what is made, and on errors, if nothing is wrong with the arrays.
func TestA4DimsAndDoAgree(t *testing.T) {
	dims := lists(nil, l(0), l(1), l(2), l(2, 2), l(0, 2), l(2, 0), l(2, 1, 2))
	fields := lists(nil, l(0), l(1), l(2), l(0, 1), l(1, 0), l(2, 2))
	for _, kind := range kinds() {
		for _, f := range fields {
			for _, g := range fields {
				op := api.Op{Kind: kind, Dims: f, At: g, Lo: g, Hi: f, Step: f, Value: 3}
				for _, args := range argLists(many(kind), dims) {
					var given []api.Array
					for _, d := range args {
						given = append(given, from(1, d...))
					}
					want, wantErr := array.Dims(op, args)
					got, err := array.Do(op, given)
					if err != wantErr || !slices.Equal(got.Dims, want) || err == api.OK && array.Wrong(got) != api.OK {
						t.Fatalf("%v %v: Dims %v, %d, but Do %v, %d", op, args, want, wantErr, got, err)
					}
				}
			}
		}
	}
}

// argLists are lists of so many of these dimensions: all of up to two, of three the first ones alike.
func argLists(n int, dims [][]int) [][][]int {
	if n == 0 {
		return [][][]int{nil}
	}
	var all [][][]int
	for _, a := range dims {
		for _, b := range dims {
			args := append(slices.Repeat(lists(a), n-1), b)
			all = append(all, args)
		}
	}
	return all
}
