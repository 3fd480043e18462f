package train

import (
	"slices"
	"sync"

	"adjoint/api"
	"adjoint/list"
	"adjoint/ring"
)

// work is what each machine is told by its piece of the rows whose turn it is: all of them work at the same time.
func (t *Trainer) work() [][]int64 {
	out := make([][]int64, t.machines)
	var group sync.WaitGroup
	for m, rows := range list.Pieces(t.turn(t.steps), t.machines) {
		group.Add(1)
		go func() {
			defer group.Done()
			out[m] = t.told(t.weights, rows)
		}()
	}
	group.Wait()
	return out
}

// summed are the sums, word by word, of what the machines have; false, if one of them falls when so many notes came.
func summed(has [][]int64, picks []int, fall int) ([]int64, bool) {
	team := make([]*ring.Member, len(has))
	for me, words := range has {
		// There are no more machines than may be, nor words than an array may have.
		team[me], _ = ring.New(api.AllSum, len(has), me, words)
	}
	var way []api.Note
	for _, m := range team {
		way = append(way, sent(m)...)
	}
	pick := list.Picker(picks)
	for came := 0; len(way) > 0; came++ {
		if came == fall {
			return nil, false
		}
		k := pick(len(way))
		note := way[k]
		way = slices.Delete(way, k, k+1)
		team[note.To].Take(note)
		way = append(way, sent(team[note.To])...)
	}
	// When all notes came, all have the same.
	out, _ := team[0].Result()
	return out, true
}

// sent are all notes that a member can send now.
func sent(m *ring.Member) []api.Note {
	var out []api.Note
	for note, more := m.Next(); more; note, more = m.Next() {
		out = append(out, note)
	}
	return out
}
