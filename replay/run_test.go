package replay_test

import (
	"fmt"
	"runtime"
	"slices"
	"strings"
	"testing"
	"weak"

	"adjoint/api"
	"adjoint/plain"
	"adjoint/replay"
)

// seen is what was seen of a run whose states are numbers.
type seen struct {
	ahead, back []int
}

func run(n, slots, start int) (seen, api.Errno) {
	var s seen
	err := replay.Run(n, slots, start, func(state int) int {
		s.ahead = append(s.ahead, state)
		return state + 1
	}, func(state int) { s.back = append(s.back, state) })
	return s, err
}

// down are the numbers from start + n - 1 down to start.
func down(n, start int) []int {
	var all []int
	for k := range n {
		all = append(all, start+n-1-k)
	}
	return all
}

func TestR4AllRuns(t *testing.T) {
	for n := range 257 {
		for slots := range 17 {
			if n > 1 && slots == 0 {
				continue
			}
			const start = 1000
			got, err := run(n, slots, start)
			least, _ := replay.Least(n, slots)
			if err != api.OK || !slices.Equal(got.back, down(n, start)) || len(got.ahead) != least {
				t.Fatalf("%d steps, %d slots: %d comes, back is called with %v, ahead %d times, not %d", n, slots, err, got.back, len(got.ahead), least)
			}
			// A step is made of a state of the chain that is not the last one.
			if least > 0 && (slices.Min(got.ahead) < start || slices.Max(got.ahead) >= start+n) {
				t.Fatalf("%d steps, %d slots: ahead is called with %v", n, slots, got.ahead)
			}
		}
	}
}

func TestR4NothingIsCalled(t *testing.T) {
	for _, c := range append(beyond(), [2]int{2, 0}, [2]int{256, 0}) {
		want := api.ErrRange
		if c[0] > 1 && c[0] < 257 && c[1] == 0 {
			want = api.ErrNone
		}
		wantNoWay(t, c[0], c[1], want)
	}
	// No step: nothing to be told. One: just the first state.
	for slots := range 17 {
		if got, err := run(0, slots, 5); err != api.OK || len(got.ahead)+len(got.back) > 0 {
			t.Errorf("%v, %d comes of no step", got, err)
		}
		if got, err := run(1, slots, 5); err != api.OK || len(got.ahead) > 0 || !slices.Equal(got.back, l(5)) {
			t.Errorf("%v, %d comes of one step", got, err)
		}
	}
}

// told are the states that a run tells, whatever they are.
func told[S any](t *testing.T, n, slots int, start S, ahead func(S) S) []S {
	t.Helper()
	var all []S
	if err := replay.Run(n, slots, start, ahead, func(s S) { all = append(all, s) }); err != api.OK {
		t.Errorf("%d steps, %d slots: %d comes", n, slots, err)
	}
	return all
}

// States of any kind.
func TestR4AnyKind(t *testing.T) {
	if got := told(t, 4, 2, "x", func(s string) string { return s + "y" }); !slices.Equal(got, []string{"xyyy", "xyy", "xy", "x"}) {
		t.Errorf("%v comes", got)
	}
	if got := told(t, 4, 1, [2]int{1, 1}, func(s [2]int) [2]int { return [2]int{s[1], s[0] + s[1]} }); !slices.Equal(got, [][2]int{{3, 5}, {2, 3}, {1, 2}, {1, 1}}) {
		t.Errorf("%v comes", got)
	}
	if got := told(t, 3, 1, []int(nil), func(s []int) []int { return append(slices.Clone(s), len(s)) }); fmt.Sprint(got) != "[[0 1] [0] []]" {
		t.Errorf("%v comes", got)
	}
	if got := told(t, 5, 3, struct{}{}, func(s struct{}) struct{} { return s }); len(got) != 5 {
		t.Errorf("%v comes", got)
	}
	if got := told(t, 3, 2, any(nil), func(s any) any { return fmt.Sprint(s, "!") }); !slices.Equal(got, []any{"<nil>!!", "<nil>!", nil}) {
		t.Errorf("%v comes", got)
	}
	got := told(t, 3, 1, func() int { return 7 }, func(s func() int) func() int { return func() int { return s() * 10 } })
	if len(got) != 3 || got[0]() != 700 || got[1]() != 70 || got[2]() != 7 {
		t.Errorf("%d functions come", len(got))
	}
}

// link is a state that knows the one it was made of.
type link struct {
	number int
	from   *link
}

// The states are those that ahead made, each of the one before it, and start itself: nothing is made of them but by ahead.
func TestR4TheStatesThemselves(t *testing.T) {
	for _, c := range [][2]int{{1, 0}, {2, 1}, {6, 1}, {12, 2}, {30, 3}, {9, 16}} {
		start := &link{}
		made := map[*link]bool{start: true}
		ahead := func(s *link) *link {
			if !made[s] {
				t.Errorf("%v: a state comes that ahead has not made", c)
			}
			next := &link{number: s.number + 1, from: s}
			made[next] = true
			return next
		}
		for k, s := range told(t, c[0], c[1], start, ahead) {
			if !made[s] || s.number != c[0]-1-k {
				t.Errorf("%v: state %d is told, as number %d", c, s.number, k)
			}
			for ; s.from != nil; s = s.from {
				if s.number != s.from.number+1 {
					t.Errorf("%v: %d was made of %d", c, s.number, s.from.number)
				}
			}
			if s != start {
				t.Errorf("%v: a chain begins elsewhere", c)
			}
		}
	}
}

// heavy is a state that lies in memory of its own.
type heavy struct {
	number int
	room   [64]*int
}

// At no time are more states kept than there are slots, beside the current one and start.
func TestR4HowManyAreKept(t *testing.T) {
	for _, c := range [][2]int{{2, 1}, {12, 1}, {12, 2}, {25, 3}, {40, 4}, {20, 16}, {60, 8}} {
		n, slots := c[0], c[1]
		start := &heavy{}
		var made []weak.Pointer[heavy]
		most := 0
		look := func() {
			runtime.GC()
			alive := 0
			for _, p := range made {
				if p.Value() != nil {
					alive++
				}
			}
			most = max(most, alive)
		}
		ahead := func(s *heavy) *heavy {
			look()
			next := &heavy{number: s.number + 1}
			made = append(made, weak.Make(next))
			runtime.KeepAlive(s)
			return next
		}
		back := func(s *heavy) {
			look()
			runtime.KeepAlive(s)
		}
		if err := replay.Run(n, slots, start, ahead, back); err != api.OK {
			t.Errorf("%d comes", err)
		}
		if most > slots+1 || most < 1 {
			t.Errorf("%d steps, %d slots: %d states are there at one time, beside start", n, slots, most)
		}
		runtime.KeepAlive(start)
	}
}

// A run that is begun while another one goes on does not know of it.
func TestR4InsideEachOther(t *testing.T) {
	var all []string
	err := replay.Run(4, 1, 0, func(s int) int { return s + 1 }, func(outer int) {
		inner, err := run(3, 2, 10*outer)
		all = append(all, fmt.Sprint(outer, inner.back, err))
	})
	want := "3 [32 31 30] 0; 2 [22 21 20] 0; 1 [12 11 10] 0; 0 [2 1 0] 0"
	if got := strings.Join(all, "; "); err != api.OK || got != want {
		t.Errorf("%s, %d comes, not %s", got, err, want)
	}
}

// Functions that are none do nothing, and nothing panics.
func TestR4NoFunctions(t *testing.T) {
	for _, c := range [][2]int{{0, 0}, {1, 0}, {2, 1}, {5, 2}, {256, 16}} {
		count := 0
		if err := replay.Run(c[0], c[1], 7, nil, func(s int) { count += s }); err != api.OK || count != 7*c[0] {
			t.Errorf("%v without ahead: %d comes, %d is told", c, err, count)
		}
		least, _ := replay.Least(c[0], c[1])
		count = 0
		if err := replay.Run(c[0], c[1], 7, func(s int) int { count++; return s }, nil); err != api.OK || count != least {
			t.Errorf("%v without back: %d comes, %d steps", c, err, count)
		}
		if err := replay.Run[*int](c[0], c[1], nil, nil, nil); err != api.OK {
			t.Errorf("%v without both: %d comes", c, err)
		}
	}
	if err := replay.Run[any](2, 0, nil, nil, nil); err != api.ErrNone {
		t.Errorf("%d comes", err)
	}
	if err := replay.Run[any](2, 17, nil, nil, nil); err != api.ErrRange {
		t.Errorf("%d comes", err)
	}
}

// In plain data it is the same.
func TestR4Plain(t *testing.T) {
	got, err := plain.Replay(5, 2, -3)
	if err != api.OK || got.Wrong || got.Ahead != 6 || !slices.Equal(got.Told, l(4, 3, 2, 1, 0)) {
		t.Errorf("%v, %d comes", got, err)
	}
	got, err = plain.Replay(2, 0, 0)
	if err != api.ErrNone || got.Wrong || got.Ahead != 0 || len(got.Told) > 0 {
		t.Errorf("%v, %d comes", got, err)
	}
}
