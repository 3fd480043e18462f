package replay

import "adjoint/api"

// way is how so many steps are gone back through with so many slots.
type way struct {
	cost  int // the least number of steps ahead
	first int // how many of these come ahead of all else, if there is more than one step to go back
}

// chart has the way for each number of slots, and there for each number of steps.
type chart [][]way

// charted is the chart for up to n steps and up to so many slots, if these can be gone back through.
func charted(n, slots int) (chart, api.Errno) {
	if !allowed(n, slots) {
		return nil, api.ErrRange
	}
	if n > 1 && slots == 0 {
		return nil, api.ErrNone
	}
	c := make(chart, slots+1)
	for s := range c {
		c[s] = make([]way, n+1)
		// Without a slot one step is all that anybody goes back through, and that costs nothing.
		if s > 0 {
			for m := 2; m <= n; m++ {
				c[s][m] = c.best(m, s)
			}
		}
	}
	return c, api.OK
}

// best is the way through m steps, 2 or more, with s slots, 1 or more, once the ways through fewer steps are known.
func (c chart) best(m, s int) way {
	b := c.through(m-1, m, s)
	if s == 1 {
		return b
	}
	for k := 1; k < m-1; k++ {
		if w := c.through(k, m, s); w.cost < b.cost {
			b = w
		}
	}
	return b
}

// through is the way through m steps that goes k of them ahead first: what lies behind that has one slot less, since the state ahead of all is kept.
func (c chart) through(k, m, s int) way {
	return way{cost: k + c[s][k].cost + c[s-1][m-k].cost, first: k}
}

// walk tells the moves back through m steps from the current state on, with the slots below free.
func (c chart) walk(m, free int, tell func(api.Move)) {
	if m > 1 {
		tell(api.Move{Do: api.MoveKeep, N: free - 1})
	}
	for m > 1 {
		k := c[free][m].first
		for range k {
			tell(api.Move{Do: api.MoveAhead})
		}
		c.walk(m-k, free-1, tell)
		tell(api.Move{Do: api.MoveLoad, N: free - 1})
		m = k
	}
	if m == 1 {
		tell(api.Move{Do: api.MoveBack})
	}
}
