package split_test

import (
	"slices"
	"testing"

	"adjoint/api"
	"adjoint/graph"
	"adjoint/split"
)

// X2: what is wrong with the graph is told by all three, ahead of all else.
func TestX2WrongGraph(t *testing.T) {
	x := par(0, 4)
	for _, c := range []struct {
		g    api.Graph
		want api.Errno
	}{
		{giving(nil, slices.Repeat([]api.Node{on(fill(1))}, api.MaxNodes+1)...), api.ErrMuch},
		{last(x, on(bare(api.Add), 0, 1)), api.ErrOrder},
		{last(x, on(bare(api.Add), 0, -1)), api.ErrOrder},
		{last(x, on(fill(1)), par(2, 4)), api.ErrForm},
		{last(par(1, 4)), api.ErrForm},
		{last(x, api.Node{Op: par(1, 4).Op, Args: l(0)}), api.ErrMany},
		{last(x, on(bare(api.Add), 0)), api.ErrMany},
		{last(par(0, -1)), api.ErrRange},
		{last(par(0, 1, 1, 1, 1, 1, 1, 1)), api.ErrRank},
		{last(par(0, 4096, 4096)), api.ErrMuch},
		{last(x, on(bare(0), 0)), api.ErrKind},
		{last(x, on(bare(20), 0)), api.ErrKind},
		{last(x, on(fill(1, 3)), on(bare(api.Mul), 0, 1)), api.ErrShape},
		{last(x, on(cut(l(0), l(5), l(1)), 0)), api.ErrRange},
		{giving(l(1), x), api.ErrRange},
		{giving(l(-1), x), api.ErrRange},
		// What nobody needs may be wrong, too.
		{giving(l(0), x, on(sum(1), 0)), api.ErrShape},
	} {
		if err := graph.Wrong(c.g); err != c.want {
			t.Fatalf("%s: %d is wrong with it, not %d", show(c.g), err, c.want)
		}
		for _, many := range l(least, 0, 1, 2, 3, crowd, crowd+1, most) {
			for _, how := range [][]int{nil, l(0), l(every), l(-2), l(5), l(0, 0, 0)} {
				wantErr(t, c.g, many, how, c.want)
			}
		}
	}
}

// X2: many is from 1 to 16; what is wrong with it is told ahead of what is wrong with how.
func TestX2Many(t *testing.T) {
	g := last(par(0, 48), par(1), on(sum(0), 0))
	for _, many := range l(least, least+1, -crowd, -2, -1, 0, crowd+1, 24, 48, 1<<32, 1<<32+2, most) {
		for _, how := range [][]int{l(every, every), l(0, every), nil, l(0), l(0, 0, 0), l(-2, every), l(1, every)} {
			wantErr(t, g, many, how, api.ErrRange)
		}
		wantErr(t, api.Graph{}, many, nil, api.ErrRange)
	}
	for many := 1; many <= crowd; many++ {
		wantByHand(t, thrown(5), g, many, l(every, every))
		if 48%many == 0 {
			wantByHand(t, thrown(5), g, many, l(0, every))
		} else {
			wantErr(t, g, many, l(0, every), api.ErrShape)
		}
		wantByHand(t, thrown(5), api.Graph{}, many, nil)
	}
}

// X2: how has a number for each parameter, needed or not; whatever else is wrong with the numbers.
func TestX2HowMany(t *testing.T) {
	for params := range 4 {
		g := giving(nil)
		for k := range params {
			g.Nodes = append(g.Nodes, par(k, 4))
		}
		g.Nodes = append(g.Nodes, on(fill(1, 4)))
		for long := range 6 {
			for _, number := range l(every, 0, -2, 1, most, least) {
				how := slices.Repeat(l(number), long)
				switch {
				case long != params:
					wantErr(t, g, 2, how, api.ErrMany)
				case long > 0 && number != every && number != 0:
					wantErr(t, g, 2, how, api.ErrShape)
				default:
					wantByHand(t, thrown(6), g, 2, how)
				}
			}
		}
	}
	wantErr(t, giving(nil), 2, l(every), api.ErrMany)
	wantErr(t, last(par(0, 3)), 2, l(0, 0), api.ErrMany)
}

// X2: each number is -1 or a dimension that many divides.
func TestX2How(t *testing.T) {
	g := giving(l(0), par(0, 4, 3, 0, 1, 6), par(1), par(2, 6))
	fits := func(dims []int, number, many int) bool {
		return number == every || number >= 0 && number < len(dims) && dims[number]%many == 0
	}
	right := 0
	for _, many := range l(1, 2, 3, 4, 6, 12, crowd) {
		for _, a := range l(least, -3, -2, every, 0, 1, 2, 3, 4, 5, 6, 1<<32, most) {
			for _, b := range l(least, -2, every, 0, 1, most) {
				for _, c := range l(least, -2, every, 0, 1, most) {
					how := l(a, b, c)
					if fits(l(4, 3, 0, 1, 6), a, many) && fits(nil, b, many) && fits(l(6), c, many) {
						wantByHand(t, thrown(7), g, many, how)
						right++
					} else {
						wantErr(t, g, many, how, api.ErrShape)
					}
				}
			}
		}
	}
	if right < 20 {
		t.Errorf("%d were right", right)
	}
}

// X4: of the arguments what Eval says of them, when nothing else is wrong.
func TestX4WrongArgs(t *testing.T) {
	g := last(par(0, 4, 2), par(1, 2), on(sum(0), 0), on(bare(api.Add), 2, 1))
	fine, two := upTo(4, 2), upTo(2)
	long := of(l(2), 1, 2, 3)
	for _, c := range []struct {
		args []api.Array
		want api.Errno
	}{
		{nil, api.ErrMany},
		{arrays(fine), api.ErrMany},
		{arrays(fine, two, two), api.ErrMany},
		{arrays(of(l(-1))), api.ErrMany},
		{arrays(of(l(-1)), of(l(-1)), of(l(-1))), api.ErrMany},
		{arrays(of(l(-1)), two), api.ErrRange},
		{arrays(of(l(4097)), two), api.ErrRange},
		{arrays(of(l(1, 1, 1, 1, 1, 1, 1), 1), two), api.ErrRank},
		{arrays(of(l(4096, 4096)), two), api.ErrMuch},
		{arrays(fine, long), api.ErrShape},
		{arrays(fine, of(l(2), 1)), api.ErrShape},
		{arrays(upTo(2, 4), two), api.ErrShape},
		{arrays(upTo(8), two), api.ErrShape},
		// What a machine has of it is not what is handed in.
		{arrays(upTo(2, 2), two), api.ErrShape},
		{arrays(fine, upTo(1)), api.ErrShape},
		// One argument after the other.
		{arrays(upTo(2, 4), of(l(-1))), api.ErrShape},
		{arrays(of(l(4, 2)), of(l(-1))), api.ErrShape},
		{arrays(of(l(-1)), long), api.ErrRange},
		{arrays(fine, of(l(-1))), api.ErrRange},
	} {
		for _, how := range [][]int{l(every, every), l(0, 0), l(1, every)} {
			for _, many := range l(1, 2) {
				wantNoRun(t, g, many, how, c.args, c.want)
			}
		}
		if _, err := graph.Eval(g, c.args); err != c.want {
			t.Errorf("Eval of %v: %d comes, not %d", c.args, err, c.want)
		}
		// All that X2 says is told ahead of it.
		wantNoRun(t, g, 0, l(0, 0), c.args, api.ErrRange)
		wantNoRun(t, g, crowd+1, l(0, 0), c.args, api.ErrRange)
		wantNoRun(t, g, 2, l(0), c.args, api.ErrMany)
		wantNoRun(t, g, 3, l(0, every), c.args, api.ErrShape)
		wantNoRun(t, g, 2, l(2, every), c.args, api.ErrShape)
	}
	wantNoRun(t, api.Graph{}, 2, nil, arrays(of(nil, 1)), api.ErrMany)
	for _, how := range [][]int{l(every, every), l(0, 0), l(1, every)} {
		wantByHand(t, thrown(8), g, 2, how)
	}
	if _, err := split.Run(g, 2, l(0, 0), arrays(fine, two)); err != api.OK {
		t.Errorf("%d comes", err)
	}
}
