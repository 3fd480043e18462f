package array_test

import (
	"fmt"
	"math"
	"slices"
	"testing"

	"adjoint/api"
	"adjoint/array"
)

const (
	top    = math.MaxInt64
	bottom = math.MinInt64
)

func TestA4Fill(t *testing.T) {
	makes(t, api.Op{Kind: api.Fill, Dims: l(2, 1), Value: -7}, of(l(2, 1), -7, -7))
	makes(t, api.Op{Kind: api.Fill, Value: bottom}, one(bottom))
	makes(t, api.Op{Kind: api.Fill, Dims: l(2, 2)}, of(l(2, 2), 0, 0, 0, 0))
	makes(t, api.Op{Kind: api.Fill, Dims: l(3, 0), Value: 9}, of(l(3, 0)))
	makes(t, api.Op{Kind: api.Fill, Dims: l(4096, 4096, 0), Value: 9}, of(l(4096, 4096, 0)))
	wantDo(t, api.Op{Kind: api.Fill, Dims: l(4097), Value: 9}, api.Array{}, api.ErrRange)
}

// What is done entry by entry with two numbers, at the edges of 64 bits too.
func TestA4EntryByEntry(t *testing.T) {
	for _, c := range []struct {
		a, b                      int64
		sum, less, times, greater int64
		below                     int64
	}{
		{3, 5, 8, -2, 15, 5, 1},
		{5, 3, 8, 2, 15, 5, 0},
		{4, 4, 8, 0, 16, 4, 0},
		{-4, 4, 0, -8, -16, 4, 1},
		{-4, -5, -9, 1, 20, -4, 0},
		{0, -1, -1, 1, 0, 0, 0},
		{top, 1, bottom, top - 1, top, top, 0},
		{bottom, 1, bottom + 1, top, bottom, 1, 1},
		{bottom, -1, top, bottom + 1, bottom, -1, 1},
		{bottom, bottom, 0, 0, 0, bottom, 0},
		{top, top, -2, 0, 1, top, 0},
		{bottom, top, -1, 1, bottom, top, 1},
		{top, bottom, -1, -1, bottom, top, 0},
		{1 << 62, 6, 1<<62 + 6, 1<<62 - 6, bottom, 1 << 62, 0},
		{1 << 32, 1 << 32, 1 << 33, 0, 0, 1 << 32, 0},
	} {
		results := map[int]int64{api.Add: c.sum, api.Sub: c.less, api.Mul: c.times, api.Max: c.greater, api.Less: c.below}
		for kind, want := range results {
			makes(t, api.Op{Kind: kind}, one(want), one(c.a), one(c.b))
			a, b := of(l(1, 3), 1, c.a, 1), of(l(1, 3), 1, c.b, 1)
			got, _ := array.Do(api.Op{Kind: kind}, []api.Array{a, b})
			if got.Data[1] != want {
				t.Errorf("kind %d of %d, %d: %d comes, not %d", kind, c.a, c.b, got.Data[1], want)
			}
		}
	}
	a, b := of(l(2, 2), 1, 2, 3, 4), of(l(2, 2), 9, -9, 3, 5)
	makes(t, api.Op{Kind: api.Add}, of(l(2, 2), 10, -7, 6, 9), a, b)
	makes(t, api.Op{Kind: api.Sub}, of(l(2, 2), -8, 11, 0, -1), a, b)
	makes(t, api.Op{Kind: api.Mul}, of(l(2, 2), 9, -18, 9, 20), a, b)
	makes(t, api.Op{Kind: api.Max}, of(l(2, 2), 9, 2, 3, 5), a, b)
	makes(t, api.Op{Kind: api.Less}, of(l(2, 2), 1, 0, 0, 1), a, b)
	for _, kind := range l(api.Add, api.Sub, api.Mul, api.Max, api.Less) {
		makes(t, api.Op{Kind: kind, Dims: l(-1), At: l(9), Value: 4}, of(l(0, 2)), of(l(0, 2)), of(l(0, 2)))
		wantDo(t, api.Op{Kind: kind}, api.Array{}, api.ErrShape, of(l(2), 1, 2), of(l(1, 2), 1, 2))
		wantDo(t, api.Op{Kind: kind}, api.Array{}, api.ErrShape, one(1), of(l(1), 1))
	}
}

func TestA4Pick(t *testing.T) {
	pick := api.Op{Kind: api.Pick}
	makes(t, pick, of(l(5), 6, 2, 3, 4, 5), of(l(5), 0, -1, 1, bottom, 1<<32), of(l(5), 1, 2, 3, 4, 5), of(l(5), 6, 7, 8, 9, 10))
	makes(t, pick, one(8), one(0), one(7), one(8))
	makes(t, pick, one(7), one(2), one(7), one(8))
	makes(t, pick, of(l(2, 0)), of(l(2, 0)), of(l(2, 0)), of(l(2, 0)))
	wantDo(t, pick, api.Array{}, api.ErrShape, one(0), one(7), of(l(1), 8))
	wantDo(t, pick, api.Array{}, api.ErrShape, of(l(2), 0, 1), one(7), of(l(2), 8, 9))
}

func TestA4Moves(t *testing.T) {
	a := of(l(2, 3), 1, 2, 3, 4, 5, 6)
	makes(t, api.Op{Kind: api.Spread, Dims: l(2, 3), At: l(0)}, of(l(2, 3), 4, 4, 4, 5, 5, 5), of(l(2), 4, 5))
	makes(t, api.Op{Kind: api.Spread, Dims: l(3, 2), At: l(1)}, of(l(3, 2), 4, 5, 4, 5, 4, 5), of(l(2), 4, 5))
	makes(t, api.Op{Kind: api.Spread, Dims: l(2, 2)}, of(l(2, 2), 4, 4, 4, 4), one(4))
	makes(t, api.Op{Kind: api.Spread, Dims: l(2, 0), At: l(0)}, of(l(2, 0)), of(l(2), 4, 5))
	makes(t, api.Op{Kind: api.Spread, Dims: l(0, 3), At: l(0)}, of(l(0, 3)), of(l(0)))
	makes(t, api.Op{Kind: api.Turn, At: l(1, 0)}, of(l(3, 2), 1, 4, 2, 5, 3, 6), a)
	makes(t, api.Op{Kind: api.Turn}, one(4), one(4))
	makes(t, api.Op{Kind: api.Turn, At: l(1, 0)}, of(l(4096, 0)), of(l(0, 4096)))
	makes(t, api.Op{Kind: api.Flip, At: l(1)}, of(l(2, 3), 3, 2, 1, 6, 5, 4), a)
	makes(t, api.Op{Kind: api.Flip, At: l(0)}, of(l(2, 3), 4, 5, 6, 1, 2, 3), a)
	makes(t, api.Op{Kind: api.Flip}, a, a)
	makes(t, api.Op{Kind: api.Flip, At: l(0, 1)}, of(l(0, 3)), of(l(0, 3)))
	makes(t, api.Op{Kind: api.Reform, Dims: l(3, 2)}, of(l(3, 2), 1, 2, 3, 4, 5, 6), a)
	makes(t, api.Op{Kind: api.Reform, Dims: l(1, 6)}, of(l(1, 6), 1, 2, 3, 4, 5, 6), a)
	makes(t, api.Op{Kind: api.Reform}, one(8), of(l(1, 1), 8))
	makes(t, api.Op{Kind: api.Reform, Dims: l(7, 0)}, of(l(7, 0)), of(l(0, 3)))
	makes(t, api.Op{Kind: api.Cut, Lo: l(0, 1), Hi: l(2, 3), Step: l(1, 1)}, of(l(2, 2), 2, 3, 5, 6), a)
	makes(t, api.Op{Kind: api.Cut, Lo: l(1, 0), Hi: l(2, 3), Step: l(1, 2)}, of(l(1, 2), 4, 6), a)
	makes(t, api.Op{Kind: api.Cut, Lo: l(1, 0), Hi: l(1, 3), Step: l(1, 2)}, of(l(0, 2)), a)
	makes(t, api.Op{Kind: api.Cut}, one(8), one(8))
	wantDo(t, api.Op{Kind: api.Spread, Dims: l(2, 3), At: l(1)}, api.Array{}, api.ErrShape, of(l(2), 4, 5))
	wantDo(t, api.Op{Kind: api.Turn, At: l(0, 0)}, api.Array{}, api.ErrShape, a)
	wantDo(t, api.Op{Kind: api.Flip, At: l(1, 0)}, api.Array{}, api.ErrShape, a)
	wantDo(t, api.Op{Kind: api.Reform, Dims: l(5)}, api.Array{}, api.ErrShape, a)
	wantDo(t, api.Op{Kind: api.Cut, Lo: l(0, 0), Hi: l(2, 4), Step: l(1, 1)}, api.Array{}, api.ErrRange, a)
}

func TestA4SumAndPad(t *testing.T) {
	a := of(l(2, 3), 1, 2, 3, 4, 5, 6)
	makes(t, api.Op{Kind: api.Sum, At: l(0)}, of(l(3), 5, 7, 9), a)
	makes(t, api.Op{Kind: api.Sum, At: l(1)}, of(l(2), 6, 15), a)
	makes(t, api.Op{Kind: api.Sum, At: l(0, 1)}, one(21), a)
	makes(t, api.Op{Kind: api.Sum}, a, a)
	makes(t, api.Op{Kind: api.Sum}, one(6), one(6))
	makes(t, api.Op{Kind: api.Sum, At: l(0)}, one(bottom+1), of(l(3), top, 1, 1))
	makes(t, api.Op{Kind: api.Sum, At: l(0)}, noughts(4), of(l(0, 4)))
	makes(t, api.Op{Kind: api.Sum, At: l(0, 1)}, one(0), of(l(0, 4)))
	makes(t, api.Op{Kind: api.Sum, At: l(1)}, of(l(0)), of(l(0, 4)))
	makes(t, api.Op{Kind: api.Sum, At: l(1, 2, 3, 4, 5)}, of(l(0)), of(append(l(0), slices.Repeat(l(4096), 5)...)))
	makes(t, api.Op{Kind: api.Pad, Lo: l(1), Hi: l(0), Step: l(3)}, of(l(5), 0, 8, 0, 0, 9), of(l(2), 8, 9))
	makes(t, api.Op{Kind: api.Pad, Lo: l(0), Hi: l(2), Step: l(1)}, of(l(4), 8, 9, 0, 0), of(l(2), 8, 9))
	makes(t, api.Op{Kind: api.Pad, Lo: l(1, 0), Hi: l(0, 1), Step: l(1, 2)}, of(l(3, 4), 0, 0, 0, 0, 1, 0, 2, 0, 3, 0, 4, 0), of(l(2, 2), 1, 2, 3, 4))
	makes(t, api.Op{Kind: api.Pad, Lo: l(2), Hi: l(1), Step: l(5)}, noughts(3), of(l(0)))
	makes(t, api.Op{Kind: api.Pad, Lo: l(2, 0), Hi: l(1, 0), Step: l(5, 5)}, of(l(3, 0)), of(l(0, 0)))
	makes(t, api.Op{Kind: api.Pad, Lo: l(0, 1), Hi: l(0, 1), Step: l(1, 1)}, noughts(2, 2), of(l(2, 0)))
	makes(t, api.Op{Kind: api.Pad}, one(5), one(5))
	wantDo(t, api.Op{Kind: api.Sum, At: l(2)}, api.Array{}, api.ErrShape, a)
	wantDo(t, api.Op{Kind: api.Pad, Lo: l(1), Hi: l(1), Step: l(0)}, api.Array{}, api.ErrRange, of(l(2), 8, 9))
	wantDo(t, api.Op{Kind: api.Pad, Lo: l(1), Hi: l(1), Step: l(4096)}, api.Array{}, api.ErrRange, of(l(2), 8, 9))
}

func TestA4Dot(t *testing.T) {
	a, b := of(l(2, 2), 1, 2, 3, 4), of(l(2, 2), 5, 6, 7, 8)
	makes(t, api.Op{Kind: api.Dot, At: l(1), Step: l(0)}, of(l(2, 2), 19, 22, 43, 50), a, b)
	makes(t, api.Op{Kind: api.Dot, At: l(0), Step: l(0)}, of(l(2, 2), 26, 30, 38, 44), a, b)
	makes(t, api.Op{Kind: api.Dot, Lo: l(1), Hi: l(0)}, of(l(2, 2, 2), 5, 6, 15, 18, 14, 16, 28, 32), a, b)
	makes(t, api.Op{Kind: api.Dot, Lo: l(0, 1), Hi: l(0, 1)}, of(l(2, 2), 5, 12, 21, 32), a, b)
	makes(t, api.Op{Kind: api.Dot, At: l(0, 1), Step: l(0, 1)}, one(70), a, b)
	makes(t, api.Op{Kind: api.Dot, At: l(0, 1), Step: l(1, 0)}, one(69), a, b)
	makes(t, api.Op{Kind: api.Dot}, one(42), one(6), one(7))
	makes(t, api.Op{Kind: api.Dot}, of(l(2, 3), 3, 4, 5, 6, 8, 10), of(l(2), 1, 2), of(l(3), 3, 4, 5))
	makes(t, api.Op{Kind: api.Dot, At: l(0), Step: l(0)}, one(bottom), of(l(2), 1<<62, 1<<62), of(l(2), 1, 5))
	// Where nothing is summed, sums are 0; where nothing is made, nothing is gone through.
	makes(t, api.Op{Kind: api.Dot, At: l(1), Step: l(0)}, noughts(2, 3), of(l(2, 0)), of(l(0, 3)))
	makes(t, api.Op{Kind: api.Dot, At: l(0), Step: l(0)}, one(0), of(l(0)), of(l(0)))
	makes(t, api.Op{Kind: api.Dot, At: l(1), Step: l(0)}, of(l(0, 3)), of(l(0, 2)), of(l(2, 3), 1, 2, 3, 4, 5, 6))
	far := slices.Repeat(l(4096), 5)
	makes(t, api.Op{Kind: api.Dot, At: l(1, 2, 3, 4, 5), Step: l(1, 2, 3, 4, 5)}, of(l(0, 0)), of(append(l(0), far...)), of(append(l(0), far...)))
	makes(t, api.Op{Kind: api.Dot, Lo: l(0, 1, 2, 3, 4, 5), Hi: l(5, 4, 3, 2, 1, 0)}, of(append(l(0), far...)), of(append(l(0), far...)), of(append(far[:5:5], 0)))
	wantDo(t, api.Op{Kind: api.Dot, At: l(1)}, api.Array{}, api.ErrShape, a, b)
	wantDo(t, api.Op{Kind: api.Dot}, api.Array{}, api.ErrMuch, noughts(4096), noughts(17))
}

// The largest products come to an end soon enough.
func TestA4LargeDot(t *testing.T) {
	a, b := from(1, 256, 256), from(3, 256, 256)
	got, err := array.Do(api.Op{Kind: api.Dot, At: l(1), Step: l(1)}, []api.Array{a, b})
	if err != api.OK || !slices.Equal(got.Dims, l(256, 256)) {
		t.Fatalf("%v, %d", got.Dims, err)
	}
	for _, at := range lists(l(0, 0), l(3, 200), l(255, 255)) {
		want := int64(0)
		for k := range 256 {
			want += entry(a, l(at[0], k)) * entry(b, l(at[1], k))
		}
		if entry(got, at) != want {
			t.Errorf("at %v: %d comes, not %d", at, entry(got, at), want)
		}
	}
}

func TestA4Join(t *testing.T) {
	a, b := of(l(2, 2), 1, 2, 3, 4), of(l(2, 2), 5, 6, 7, 8)
	makes(t, api.Op{Kind: api.Join, At: l(0)}, of(l(4, 2), 1, 2, 3, 4, 5, 6, 7, 8), a, b)
	makes(t, api.Op{Kind: api.Join, At: l(1)}, of(l(2, 4), 1, 2, 5, 6, 3, 4, 7, 8), a, b)
	makes(t, api.Op{Kind: api.Join, At: l(1)}, of(l(2, 5), 1, 2, 0, 5, 6, 3, 4, 0, 7, 8), a, noughts(2, 1), b)
	makes(t, api.Op{Kind: api.Join, At: l(1)}, of(l(2, 4), 1, 2, 5, 6, 3, 4, 7, 8), of(l(2, 0)), a, of(l(2, 0)), b, of(l(2, 0)))
	makes(t, api.Op{Kind: api.Join, At: l(0)}, a, a)
	makes(t, api.Op{Kind: api.Join, At: l(0)}, of(l(0)), of(l(0)))
	makes(t, api.Op{Kind: api.Join, At: l(0)}, of(l(5, 0)), of(l(2, 0)), of(l(3, 0)))
	makes(t, api.Op{Kind: api.Join, At: l(5)}, of(append(slices.Repeat(l(4096), 5), 0)), of(append(slices.Repeat(l(4096), 5), 0)))
	wantDo(t, api.Op{Kind: api.Join, At: l(0)}, api.Array{}, api.ErrMany)
	wantDo(t, api.Op{Kind: api.Join, At: l(0)}, api.Array{}, api.ErrShape, one(1))
	wantDo(t, api.Op{Kind: api.Join, At: l(1)}, api.Array{}, api.ErrShape, a, of(l(1, 2), 1, 2))
	wantDo(t, api.Op{Kind: api.Join, At: l(0)}, api.Array{}, api.ErrRange, noughts(4096), noughts(1))
}

// Very many parts, most of them without entries, come to an end soon enough.
func TestA4JoinOfVeryMany(t *testing.T) {
	args := slices.Repeat([]api.Array{of(l(4096, 0))}, 1<<18)
	args[5], args[1<<17] = from(1, 4096, 1), from(2, 4096, 1)
	got, err := array.Do(api.Op{Kind: api.Join, At: l(1)}, args)
	if err != api.OK || !slices.Equal(got.Dims, l(4096, 2)) || !slices.Equal(got.Data[:6], []int64{1, 2, 2, 4, 3, 6}) {
		t.Errorf("%v, %d", got.Dims, err)
	}
}

func TestA4Take(t *testing.T) {
	a, take := of(l(3, 2), 1, 2, 3, 4, 5, 6), api.Op{Kind: api.Take}
	makes(t, take, of(l(4, 2), 5, 6, 1, 2, 5, 6, 3, 4), a, of(l(4), 2, 0, 2, 1))
	makes(t, take, of(l(2), 3, 4), a, one(1))
	makes(t, take, of(l(2, 1, 2), 3, 4, 5, 6), a, of(l(2, 1), 1, 2))
	makes(t, take, of(l(2), 20, 30), of(l(3), 10, 20, 30), of(l(2), 1, 2))
	makes(t, take, one(20), of(l(3), 10, 20, 30), one(1))
	// Rows that are none.
	makes(t, take, noughts(7, 2), a, of(l(7), 3, -1, bottom, top, 1<<32, 1<<32+1, -1<<32))
	makes(t, take, of(l(3, 2), 0, 0, 3, 4, 0, 0), a, of(l(3), 3, 1, -3))
	makes(t, take, noughts(2, 2), of(l(0, 2)), of(l(2), 0, 1))
	makes(t, take, of(l(2, 0)), of(l(3, 0)), of(l(2), 0, 1))
	makes(t, take, of(l(0, 2)), a, of(l(0)))
	wantDo(t, take, api.Array{}, api.ErrShape, one(1), one(0))
	wantDo(t, take, api.Array{}, api.ErrMuch, noughts(1, 256), noughts(257))
}

func TestA4Put(t *testing.T) {
	put := func(rows int) api.Op { return api.Op{Kind: api.Put, Dims: l(rows)} }
	a := of(l(3, 2), 1, 2, 3, 4, 5, 6)
	makes(t, put(2), of(l(2), 0, 11), of(l(3), 5, 6, 7), of(l(3), 1, 1, 2))
	makes(t, put(3), of(l(3, 2), 3, 4, 0, 0, 6, 8), a, of(l(3), 2, 0, 2))
	makes(t, put(2), of(l(2), 6, 15), of(l(2, 3), 1, 2, 3, 4, 5, 6), of(l(2, 3), 0, 0, 0, 1, 1, 1))
	makes(t, put(2), of(l(2, 3, 2), 0, 0, 0, 0, 0, 0, 1, 2, 3, 4, 5, 6), a, one(1))
	makes(t, put(2), of(l(2), 0, 9), one(9), one(1))
	makes(t, put(1), of(l(1), bottom), of(l(2), top, 1), of(l(2), 0, 0))
	// Rows that are none, and none at all.
	makes(t, put(2), noughts(2), of(l(6), 1, 2, 3, 4, 5, 6), of(l(6), 2, -1, bottom, top, 1<<32, 1<<32+1))
	makes(t, put(2), of(l(2, 2), 0, 0, 3, 4), a, of(l(3), 2, 1, -2))
	makes(t, put(0), of(l(0, 2)), a, of(l(3), 0, 0, 0))
	makes(t, put(2), noughts(2, 3), of(l(0, 3)), of(l(0)))
	makes(t, put(2), of(l(2, 0)), of(l(3, 0)), of(l(3), 0, 1, 1))
	wantDo(t, put(2), api.Array{}, api.ErrShape, a, of(l(2), 0, 1))
	wantDo(t, put(-1), api.Array{}, api.ErrRange, a, of(l(3), 0, 1, 2))
	wantDo(t, api.Op{Kind: api.Put}, api.Array{}, api.ErrShape, a, of(l(3), 0, 1, 2))
}

// What is wrong with the first array that is wrong is told, ahead of what Dims says of the dimensions, and behind ErrKind and ErrMany.
func TestA4WrongArrays(t *testing.T) {
	bad := []struct {
		a   api.Array
		err api.Errno
	}{
		{of(ones(7), 1), api.ErrRank},
		{of(l(-1)), api.ErrRange},
		{of(l(4097)), api.ErrRange},
		{of(l(4096, 17)), api.ErrMuch},
		{of(l(2), 1), api.ErrShape},
		{of(l(2), 1, 2, 3), api.ErrShape},
		{of(nil), api.ErrShape},
	}
	for _, kind := range kinds() {
		op := api.Op{Kind: kind, Dims: l(-1), At: l(-1), Lo: l(-1)}
		for first := range many(kind) {
			for _, b := range bad {
				for _, later := range bad {
					args := slices.Repeat([]api.Array{of(l(2), 1, 2)}, many(kind))
					args[first] = b.a
					for k := first + 1; k < len(args); k++ {
						args[k] = later.a
					}
					wantDo(t, op, api.Array{}, b.err, args...)
				}
			}
		}
	}
	// The dimensions do not fit, and there is a wrong array behind them.
	wantDo(t, api.Op{Kind: api.Pick}, api.Array{}, api.ErrMuch, of(l(2), 1, 2), of(l(3), 1, 2, 3), of(l(4096, 17)))
	wantDo(t, api.Op{Kind: api.Join, At: l(7)}, api.Array{}, api.ErrRank, of(l(2), 1, 2), of(l(3), 1, 2, 3), of(ones(7)))
	wantDo(t, api.Op{Kind: api.Put, Dims: l(-1)}, api.Array{}, api.ErrShape, of(l(2), 1, 2), of(l(2), 1))
}

func TestA5Weight(t *testing.T) {
	for _, c := range []struct {
		op   api.Op
		args [][]int
		want int
	}{
		{api.Op{Kind: api.Fill}, nil, 1},
		{api.Op{Kind: api.Fill, Dims: l(2, 3)}, nil, 6},
		{api.Op{Kind: api.Fill, Dims: l(4096, 4096, 0)}, nil, 0},
		{api.Op{Kind: api.Add}, lists(l(2, 3), l(2, 3)), 18},
		{api.Op{Kind: api.Sub}, lists(nil, nil), 3},
		{api.Op{Kind: api.Mul}, lists(l(0), l(0)), 0},
		{api.Op{Kind: api.Max}, lists(l(4), l(4)), 12},
		{api.Op{Kind: api.Less}, lists(l(4), l(4)), 12},
		{api.Op{Kind: api.Pick}, lists(l(5), l(5), l(5)), 20},
		{api.Op{Kind: api.Spread, Dims: l(2, 5), At: l(0)}, lists(l(2)), 12},
		{api.Op{Kind: api.Sum, At: l(1)}, lists(l(2, 5)), 12},
		{api.Op{Kind: api.Sum, At: l(0)}, lists(l(0, 5)), 5},
		{api.Op{Kind: api.Turn, At: l(1, 0)}, lists(l(2, 5)), 20},
		{api.Op{Kind: api.Reform, Dims: l(10)}, lists(l(2, 5)), 20},
		{api.Op{Kind: api.Cut, Lo: l(1), Hi: l(4), Step: l(2)}, lists(l(7)), 9},
		{api.Op{Kind: api.Pad, Lo: l(1), Hi: l(4), Step: l(2)}, lists(l(7)), 25},
		{api.Op{Kind: api.Flip, At: l(0)}, lists(l(7)), 14},
		{api.Op{Kind: api.Dot, At: l(1), Step: l(0)}, lists(l(2, 2), l(2, 2)), 28},
		{api.Op{Kind: api.Dot, At: l(1), Step: l(0)}, lists(l(2, 3), l(3, 5)), 10 + 6 + 15 + 2*10*3},
		{api.Op{Kind: api.Dot, At: l(2, 1), Step: l(0, 1), Lo: l(0), Hi: l(2)}, lists(l(7, 2, 3), l(3, 2, 7)), 7 + 42 + 42 + 2*7*6},
		{api.Op{Kind: api.Dot, Lo: l(0), Hi: l(0)}, lists(l(7), l(7, 2)), 14 + 7 + 14 + 2*14},
		{api.Op{Kind: api.Dot}, lists(nil, nil), 5},
		{api.Op{Kind: api.Dot, At: l(1), Step: l(0)}, lists(l(2, 0), l(0, 5)), 10},
		{api.Op{Kind: api.Dot, At: l(1), Step: l(0)}, lists(l(0, 6), l(6, 5)), 30},
		{api.Op{Kind: api.Dot, At: l(1), Step: l(1)}, lists(l(256, 256), l(256, 256)), 3<<16 + 2<<24},
		{api.Op{Kind: api.Dot, At: l(1, 2, 3, 4, 5), Step: l(1, 2, 3, 4, 5)}, slices.Repeat(lists(append(l(0), slices.Repeat(l(4096), 5)...)), 2), 0},
		{api.Op{Kind: api.Join, At: l(0)}, lists(l(2), l(3)), 20},
		{api.Op{Kind: api.Join, At: l(0)}, lists(l(2)), 6},
		{api.Op{Kind: api.Join, At: l(1)}, lists(l(2, 1), l(2, 0), l(2, 4)), 10 + 10 + 3*10},
		{api.Op{Kind: api.Take}, lists(l(7, 2), l(3)), 6 + 14 + 3},
		{api.Op{Kind: api.Put, Dims: l(5)}, lists(l(3, 4, 2), l(3, 4)), 10 + 24 + 12},
	} {
		got, err := array.Weight(c.op, c.args)
		if got != c.want || err != api.OK {
			t.Errorf("Weight %s: %d, %d comes, not %d", fmt.Sprint(c.op, c.args), got, err, c.want)
		}
	}
}
