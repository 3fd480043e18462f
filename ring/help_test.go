package ring_test

import (
	"fmt"
	"math"
	"math/rand/v2"
	"slices"
	"testing"

	"adjoint/api"
	"adjoint/ring"
)

const (
	full  = 65536 // as many words as there may be
	crowd = 16    // as many members as there may be
	most  = math.MaxInt
	least = math.MinInt
)

// kinds are all kinds.
func kinds() []int { return []int{api.AllSum, api.ScatterSum, api.AllParts, api.AllSwap} }

// w are words.
func w(words ...int64) []int64 { return words }

// note is a note.
func note(from, to, step int, words ...int64) api.Note {
	return api.Note{From: from, To: to, Step: step, Data: words}
}

// show shows anything, if it is long the beginning of it.
func show(what ...any) string {
	s := fmt.Sprint(what...)
	if len(s) > 300 {
		return s[:300] + " .."
	}
	return s
}

// member is a member of whose beginning nothing is wrong.
func member(t *testing.T, do, many, me int, words ...int64) *ring.Member {
	t.Helper()
	m, err := ring.New(do, many, me, words)
	if m == nil || err != api.OK {
		t.Fatalf("New of kind %d, member %d of %d, %s: %d comes", do, me, many, show(words), err)
	}
	return m
}

// wantNoMember: this is wrong with a member's beginning, and there is no member.
func wantNoMember(t *testing.T, do, many, me int, words []int64, want api.Errno) {
	t.Helper()
	if m, err := ring.New(do, many, me, words); m != nil || err != want {
		t.Errorf("New of kind %d, member %d of %d, %d words: %d comes, not %d", do, me, many, len(words), err, want)
	}
}

// alike tells whether two notes say the same.
func alike(a, b api.Note) bool {
	return a.From == b.From && a.To == b.To && a.Step == b.Step && slices.Equal(a.Data, b.Data)
}

// wantNext: this is the next note.
func wantNext(t *testing.T, m *ring.Member, want api.Note) {
	t.Helper()
	if got, ok := m.Next(); !ok || !alike(got, want) {
		t.Errorf("Next: %s and %t come, not %s", show(got), ok, show(want))
	}
}

// wantNoNext: no note can be sent now, however often one asks.
func wantNoNext(t *testing.T, m *ring.Member) {
	t.Helper()
	for range 3 {
		if got, ok := m.Next(); ok || !alike(got, api.Note{}) {
			t.Errorf("Next: %s and %t come, and nothing should", show(got), ok)
		}
	}
}

// wantTake: these notes are taken.
func wantTake(t *testing.T, m *ring.Member, notes ...api.Note) {
	t.Helper()
	for _, n := range notes {
		if err := m.Take(n); err != api.OK {
			t.Errorf("Take of %s: %d comes", show(n), err)
		}
	}
}

// wantNoTake: none of these notes is taken.
func wantNoTake(t *testing.T, m *ring.Member, notes ...api.Note) {
	t.Helper()
	for _, n := range notes {
		if err := m.Take(n); err != api.ErrState {
			t.Errorf("Take of %s: %d comes, not %d", show(n), err, api.ErrState)
		}
	}
}

// wantResult: this came of it, however often one asks.
func wantResult(t *testing.T, m *ring.Member, want ...int64) {
	t.Helper()
	for range 2 {
		if got, err := m.Result(); err != api.OK || !slices.Equal(got, want) {
			t.Errorf("Result: %s and %d come, not %s", show(got), err, show(want))
		}
	}
}

// wantNoResult: nothing came of it yet, however often one asks.
func wantNoResult(t *testing.T, m *ring.Member) {
	t.Helper()
	for range 2 {
		if got, err := m.Result(); err != api.ErrState || len(got) != 0 {
			t.Errorf("Result: %s and %d come, not %d", show(got), err, api.ErrState)
		}
	}
}

// mod is a number modulo many.
func mod(n, many int) int {
	for n < 0 {
		n += many
	}
	for n >= many {
		n -= many
	}
	return n
}

// piece are the words of a piece, by the words of T1: p times n / many, rounded down, is at most i just if it is below i + 1; and (p + 1) times n / many, rounded down, is above i just if it is at least i + 1.
func piece(words []int64, many, p int) []int64 {
	out := w()
	for i, word := range words {
		if n := len(words); p*n < (i+1)*many && (i+1)*many <= (p+1)*n {
			out = append(out, word)
		}
	}
	return out
}

// plus are the sums, word by word.
func plus(a, b []int64) []int64 {
	out := slices.Clone(a)
	for k := range out {
		out[k] += b[k]
	}
	return out
}

// notesByHand is how many notes each member sends.
func notesByHand(do, many int) int {
	if do == api.AllSum {
		return 2 * (many - 1)
	}
	return many - 1
}

// whoByHand is from whom a member takes a note, to whom it sends that with the same step.
func whoByHand(do, many, me, step int) (from, to int) {
	if do == api.AllSwap {
		return mod(me-step-1, many), mod(me+step+1, many)
	}
	return mod(me-1, many), mod(me+1, many)
}

// endsByHand is what each member has in the end, by the words of T1.
func endsByHand(do int, words [][]int64) [][]int64 {
	many := len(words)
	out := make([][]int64, many)
	for me := range words {
		switch do {
		case api.AllParts:
			out[me] = slices.Concat(words...)
			continue
		case api.AllSwap:
			for _, one := range words {
				out[me] = append(out[me], piece(one, many, me)...)
			}
			continue
		}
		sums := make([]int64, len(words[0]))
		for _, one := range words {
			sums = plus(sums, one)
		}
		if do == api.ScatterSum {
			sums = piece(sums, many, me)
		}
		out[me] = sums
	}
	return out
}

// byHand is a member by the words of T1 to T6: it keeps what it was given and what it has taken, and works all else out anew each time.
type byHand struct {
	do, many, me int
	words        []int64
	taken        map[int]api.Note
	sent         int
}

func memberByHand(do, many, me int, words []int64) *byHand {
	return &byHand{do: do, many: many, me: me, words: slices.Clone(words), taken: map[int]api.Note{}}
}

// used is how many notes were used.
func (h *byHand) used() int {
	for k := 0; ; k++ {
		if _, ok := h.taken[k]; !ok {
			return k
		}
	}
}

// sums tells whether a note is added where it is taken.
func (h *byHand) sums(step int) bool {
	return h.do == api.ScatterSum || h.do == api.AllSum && step < h.many-1
}

// number is which piece, or whose words, one member sends.
func (h *byHand) number(member, step int) int {
	switch {
	case h.sums(step):
		return mod(member-step-1, h.many)
	case h.do == api.AllSum:
		return mod(member-(step-(h.many-1)), h.many)
	case h.do == api.AllParts:
		return mod(member-step, h.many)
	}
	return mod(member+step+1, h.many)
}

// pieces are those that the member has now; of AllSwap its own.
func (h *byHand) pieces() [][]int64 {
	out := make([][]int64, h.many)
	for p := range out {
		out[p] = piece(h.words, h.many, p)
		if h.do == api.AllParts {
			out[p] = nil
		}
	}
	if h.do == api.AllParts {
		out[h.me] = h.words
	}
	for k := range h.used() {
		p := h.number(mod(h.me-1, h.many), k)
		switch {
		case h.do == api.AllSwap:
		case h.sums(k):
			out[p] = plus(out[p], h.taken[k].Data)
		default:
			out[p] = h.taken[k].Data
		}
	}
	return out
}

func (h *byHand) next() (api.Note, bool) {
	if h.sent == notesByHand(h.do, h.many) || h.do != api.AllSwap && h.used() < h.sent {
		return api.Note{}, false
	}
	_, to := whoByHand(h.do, h.many, h.me, h.sent)
	out := note(h.me, to, h.sent, h.pieces()[h.number(h.me, h.sent)]...)
	h.sent++
	return out, true
}

func (h *byHand) take(n api.Note) api.Errno {
	if n.To != h.me || n.Step < 0 || n.Step >= notesByHand(h.do, h.many) {
		return api.ErrState
	}
	if _, ok := h.taken[n.Step]; ok {
		return api.ErrState
	}
	from, _ := whoByHand(h.do, h.many, h.me, n.Step)
	if n.From != from {
		return api.ErrState
	}
	must := len(piece(h.words, h.many, h.number(from, n.Step)))
	if h.do == api.AllParts && len(n.Data) > full || h.do != api.AllParts && len(n.Data) != must {
		return api.ErrState
	}
	n.Data = slices.Clone(n.Data)
	h.taken[n.Step] = n
	return api.OK
}

func (h *byHand) result() ([]int64, api.Errno) {
	if h.used() < notesByHand(h.do, h.many) {
		return nil, api.ErrState
	}
	all := h.pieces()
	switch h.do {
	case api.ScatterSum:
		return all[h.me], api.OK
	case api.AllSwap:
		for _, n := range h.taken {
			all[n.From] = n.Data
		}
	}
	return slices.Concat(all...), api.OK
}

// dice throw what is asked for.
type dice struct{ *rand.Rand }

func thrown(seed uint64) dice { return dice{rand.New(rand.NewPCG(14, seed))} }

func (d dice) of(all ...int) int { return all[d.IntN(len(all))] }

// words are so many, some of them at the edges of numbers.
func (d dice) words(many int) []int64 {
	out := make([]int64, many)
	for k := range out {
		switch d.IntN(3) {
		case 0:
			out[k] = int64(d.Uint64())
		case 1:
			out[k] = int64(d.IntN(19) - 9)
		default:
			out[k] = []int64{math.MinInt64, math.MinInt64 + 1, -1, 0, 1, math.MaxInt64 - 1, math.MaxInt64}[d.IntN(7)]
		}
	}
	return out
}

// team are the words of each member of a team.
func (d dice) team(do, many int) [][]int64 {
	out := make([][]int64, many)
	size := d.IntN(3 * many)
	for k := range out {
		switch do {
		case api.AllParts:
			out[k] = d.words(d.IntN(6))
		case api.AllSwap:
			out[k] = d.words(size / 3 * many)
		default:
			out[k] = d.words(size)
		}
	}
	return out
}
