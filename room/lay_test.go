package room_test

import (
	"slices"
	"testing"

	"adjoint/api"
	"adjoint/room"
)

// M1: as many lives as there may be, and one more.
func TestM1HowMany(t *testing.T) {
	for _, one := range lives(life(0, 0, 0), life(3, 4, 0), life(3, 3, 4)) {
		many := slices.Repeat(lives(one), full)
		wantLoad(t, 0, many...)
		wantLay(t, many, 0, make([]int, full)...)
		wantBad(t, append(many, one), api.ErrMany)
	}
	wantBad(t, make([]api.Life, 3*full), api.ErrMany)
	// There are too many, whatever they are.
	wantBad(t, append(make([]api.Life, full), life(-1, 0, 0)), api.ErrMany)
	wantBad(t, slices.Repeat(lives(life(2, 1, -1)), full+1), api.ErrMany)
}

// M1: From, To and Words at and beyond both ends.
func TestM1Range(t *testing.T) {
	for _, one := range lives(life(0, 0, 0), life(0, all, 0), life(all, all, 0), life(7, 7, 1), life(0, 1, all), life(all-1, all, all), life(all, all, all), life(0, 0, all)) {
		want := 0
		if one.To > one.From {
			want = one.Words
		}
		wantLoad(t, want, one)
		wantLay(t, lives(one), want, 0)
	}
	for _, one := range lives(
		life(-1, 0, 0), life(-1, 5, 1), life(-5, -5, 1), life(least, 0, 1), life(least, least, 1), life(least, most, 1),
		life(1, 0, 0), life(1, 0, 5), life(6, 5, 1), life(all, all-1, 1), life(5, -1, 1), life(0, -1, 0), life(0, least, 0), life(most, least, 1), life(most, 0, 1),
		life(0, all+1, 0), life(all+1, all+1, 0), life(all, all+1, 1), life(all+1, all, 1), life(0, most, 1), life(most, most, 1),
		life(0, 0, -1), life(0, 1, -1), life(0, 1, least), life(0, 1, all+1), life(0, 0, all+1), life(5, 5, most),
	) {
		fine := life(0, 1, 1)
		wantBad(t, lives(one), api.ErrRange)
		wantBad(t, lives(one, fine), api.ErrRange)
		wantBad(t, lives(fine, fine, one), api.ErrRange)
		wantBad(t, lives(fine, one, fine), api.ErrRange)
		wantBad(t, append(make([]api.Life, full-1), one), api.ErrRange)
		wantBad(t, append(make([]api.Life, full), one), api.ErrMany)
	}
}

// M1: what is needed at one time.
func TestM1Load(t *testing.T) {
	wantLoad(t, 0)
	wantLoad(t, 5, life(0, 2, 3), life(1, 3, 2), life(2, 4, 3))
	wantLoad(t, 8, life(0, 2, 3), life(1, 3, 2), life(1, 4, 3))
	wantLoad(t, 7, life(0, 9, 7), life(10, 11, 3))
	wantLoad(t, 13, life(3, 9, 1), life(0, 9, 2), life(1, 2, 5), life(2, 4, 6), life(2, 3, 5))
	// They only touch.
	wantLoad(t, 4, life(0, 2, 3), life(2, 4, 4))
	wantLoad(t, 4, life(2, 4, 4), life(0, 2, 3))
	wantLoad(t, 3, life(0, 1, 3), life(1, 2, 3), life(2, 3, 3), life(3, 4, 2))
	wantLoad(t, 7, life(0, 3, 3), life(2, 4, 4))
	// Without words, without time: alone, and where others are needed.
	wantLoad(t, 0, life(0, 9, 0), life(4, 5, 0))
	wantLoad(t, 0, life(5, 5, 9), life(0, 0, all), life(all, all, all))
	wantLoad(t, 3, life(0, 9, 3), life(4, 4, 9), life(0, 0, 5), life(9, 9, 5), life(3, 8, 0))
	wantLoad(t, 3, life(0, 0, 5), life(9, 9, 5), life(4, 4, 9), life(0, 9, 3))
	wantLoad(t, 4, life(0, 2, 3), life(2, 2, 9), life(2, 4, 4))
	// The most is needed at first, at last, in between.
	wantLoad(t, 9, life(0, 1, 8), life(0, 5, 1), life(4, 5, 3))
	wantLoad(t, 9, life(0, 1, 3), life(0, 5, 1), life(4, 5, 8))
	wantLoad(t, 9, life(0, 5, 1), life(2, 3, 3), life(1, 4, 5))
	// More than all memory has.
	wantLoad(t, all+1, life(0, 1, all), life(0, 1, 1))
	wantLoad(t, full*all, slices.Repeat(lives(life(all-1, all, all)), full)...)
	wantLoad(t, all, life(0, 1, all), life(1, 2, all))
}

// M2: ordinary ones.
func TestM2Lay(t *testing.T) {
	wantLay(t, nil, 0)
	wantLay(t, lives(life(0, 2, 3), life(1, 3, 2), life(2, 4, 3)), 5, 0, 3, 0)
	wantLay(t, lives(life(3, 9, 1), life(0, 9, 2), life(1, 2, 5), life(2, 4, 6), life(2, 3, 5)), 13, 8, 0, 2, 2, 8)
	wantLay(t, lives(life(4, 5, 7)), 7, 0)
	// They only touch; they are the same.
	wantLay(t, lives(life(0, 2, 3), life(2, 4, 4)), 4, 0, 0)
	wantLay(t, lives(life(0, 3, 3), life(2, 4, 4)), 7, 0, 3)
	wantLay(t, lives(life(0, 1, 3), life(0, 1, 3), life(0, 1, 3)), 9, 0, 3, 6)
	// One that lies over all of another one's time, and one that it lies over.
	wantLay(t, lives(life(0, 9, 2), life(3, 4, 5)), 7, 0, 2)
	wantLay(t, lives(life(3, 4, 5), life(0, 9, 2)), 7, 2, 0)
	// What is laid later may lie lower.
	wantLay(t, lives(life(0, 1, 5), life(0, 9, 1), life(1, 9, 4), life(1, 9, 2)), 8, 0, 5, 0, 6)
}

// M2: those with the lesser From first, of one From as they stand.
func TestM2Order(t *testing.T) {
	wantLay(t, lives(life(2, 5, 1), life(1, 5, 2), life(0, 5, 4)), 7, 6, 4, 0)
	wantLay(t, lives(life(1, 5, 1), life(0, 5, 2), life(1, 5, 4), life(0, 5, 8)), 15, 10, 0, 11, 2)
	// Neither To nor Words say who is first.
	wantLay(t, lives(life(0, 1, 1), life(0, 9, 9), life(0, 5, 4)), 14, 0, 1, 10)
	wantLay(t, lives(life(0, 9, 9), life(0, 1, 1), life(0, 5, 4)), 14, 0, 9, 10)
	wantLay(t, lives(life(1, 2, 1), life(0, 9, 9)), 10, 9, 0)
	// Many of one From.
	many := slices.Repeat(lives(life(3, 4, 2), life(3, 5, 1)), full/2)
	want := make([]int, full)
	for k := range want {
		want[k] = k/2*3 + k%2*2
	}
	wantLay(t, many, full/2*3, want...)
	// Each From a lesser one than that ahead of it.
	for k := range many {
		many[k] = life(full-k, full+1, 3)
		want[k] = 3 * (full - 1 - k)
	}
	wantLay(t, many, full*3, want...)
}

// M2: gaps that are just large enough, and one word too small.
func TestM2Gaps(t *testing.T) {
	// At the time 1 the words from 0 to 3, from 5 to 9 and from 10 on are free.
	base := lives(life(0, 1, 3), life(0, 9, 2), life(0, 1, 4), life(0, 9, 1))
	for words, want := range []int{0, 0, 0, 0, 5, 10, 10} {
		if words > 0 {
			wantLay(t, append(slices.Clone(base), life(1, 9, words)), max(10, want+words), 0, 3, 5, 9, want)
		}
	}
	// The gap is filled by two, or not quite.
	wantLay(t, append(slices.Clone(base), life(1, 9, 4), life(1, 9, 3), life(1, 9, 1)), 11, 0, 3, 5, 9, 5, 0, 10)
	wantLay(t, append(slices.Clone(base), life(1, 9, 2), life(1, 9, 2), life(1, 9, 2), life(1, 9, 1), life(1, 9, 1)), 11, 0, 3, 5, 9, 0, 5, 7, 2, 10)
	// A gap that two left that lay side by side.
	wantLay(t, lives(life(0, 1, 2), life(0, 2, 2), life(0, 9, 1), life(2, 9, 4)), 5, 0, 2, 4, 0)
	wantLay(t, lives(life(0, 1, 2), life(0, 2, 2), life(0, 9, 1), life(2, 9, 5)), 10, 0, 2, 4, 5)
	wantLay(t, lives(life(0, 1, 2), life(0, 3, 2), life(0, 9, 1), life(2, 9, 4)), 9, 0, 2, 4, 5)
}

// M2: what takes no room is in nobody's way, and nobody is in its.
func TestM2NoRoom(t *testing.T) {
	wantLay(t, lives(life(0, 9, 0)), 0, 0)
	wantLay(t, lives(life(5, 5, 9)), 0, 0)
	wantLay(t, lives(life(0, 9, 0), life(5, 5, 9), life(all, all, all), life(all, all, 0)), 0, 0, 0, 0, 0)
	wantLay(t, lives(life(0, 9, 3), life(0, 9, 0), life(4, 4, 9), life(0, 0, 7), life(9, 9, 7), life(0, 9, 2)), 5, 0, 0, 0, 0, 0, 3)
	wantLay(t, lives(life(0, 9, 0), life(0, 0, 7), life(0, 9, 3), life(0, 9, 2)), 5, 0, 0, 0, 3)
	wantLay(t, lives(life(0, 1, 3), life(1, 1, 8), life(1, 2, 4)), 4, 0, 0, 0)
}

// M2: memory that ends with as many words as there may be, and with one more.
func TestM2Much(t *testing.T) {
	wantLay(t, lives(life(0, 1, all)), all, 0)
	wantLay(t, lives(life(0, 1, all-1), life(0, 1, 1)), all, 0, all-1)
	wantNoPlaces(t, lives(life(0, 1, all-1), life(0, 1, 2)), api.ErrMuch)
	wantNoPlaces(t, lives(life(0, 1, all), life(0, 1, 1)), api.ErrMuch)
	wantNoPlaces(t, lives(life(0, 1, 1), life(0, 1, all)), api.ErrMuch)
	wantLoad(t, all+1, life(0, 1, 1), life(0, 1, all))
	wantLay(t, lives(life(0, 1, all), life(1, 2, all), life(all-1, all, all)), all, 0, 0, 0)
	wantLay(t, lives(life(0, 1, all), life(0, 1, 0), life(0, 0, all)), all, 0, 0, 0)
	wantLay(t, slices.Repeat(lives(life(0, 1, all/full)), full), all, func() []int {
		out := upTo(full)
		for k := range out {
			out[k] *= all / full
		}
		return out
	}()...)
	wantNoPlaces(t, slices.Repeat(lives(life(0, 1, all)), full), api.ErrMuch)
	// What comes behind too much does not make it less; and there would be room for what is needed, but not where gaps are.
	wantNoPlaces(t, lives(life(0, 1, all), life(0, 1, 1), life(1, 2, 1)), api.ErrMuch)
	wantNoPlaces(t, lives(life(0, 1, all/2), life(0, 9, 1), life(1, 9, all/2+1)), api.ErrMuch)
	wantLoad(t, all/2+2, life(0, 1, all/2), life(0, 9, 1), life(1, 9, all/2+1))
	wantLay(t, lives(life(0, 1, all/2), life(0, 9, 1), life(1, 9, all/2-1)), all/2+1, 0, all/2, 0)
	// Something is wrong with them: that is told first.
	wantBad(t, lives(life(0, 1, all), life(0, 1, all), life(1, 0, 0)), api.ErrRange)
}

// M1, M2: dice-thrown lives, against the words.
func TestM2Thrown(t *testing.T) {
	d := thrown(1)
	below, above := 0, 0
	for range 4000 {
		given := d.lives()
		places, words := layByHand(given)
		wantLoad(t, loadByHand(given), given...)
		wantLay(t, given, words, places...)
		if words > loadByHand(given) {
			above++
		} else {
			below++
		}
		if words < loadByHand(given) {
			t.Fatalf("%v: %d words hold %d", given, words, loadByHand(given))
		}
	}
	if min(below, above) < 100 {
		t.Errorf("%d took just what was needed, %d more", below, above)
	}
}

// M2: no two that are needed at one time and take room share a word, of many lives.
func TestM2Apart(t *testing.T) {
	d := thrown(2)
	for range 8 {
		given := make([]api.Life, full)
		for k := range given {
			from := d.IntN(all)
			given[k] = life(from, min(all, from+d.IntN(all/64)), d.IntN(2000))
		}
		at, words, err := room.Lay(given)
		load, _ := room.Load(given)
		if err != api.OK || words < load {
			t.Fatalf("%d words hold %d, and %d comes", words, load, err)
		}
		end := 0
		for k, a := range given {
			end = max(end, at[k]+a.Words)
			for i, b := range given[:k] {
				if max(a.From, b.From) < min(a.To, b.To) && max(at[k], at[i]) < min(at[k]+a.Words, at[i]+b.Words) {
					t.Fatalf("%v at %d and %v at %d share a word", a, at[k], b, at[i])
				}
			}
		}
		if end != words {
			t.Errorf("they end at %d, and %d words are told", end, words)
		}
	}
}
