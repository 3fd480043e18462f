package train_test

import (
	"slices"
	"strings"
	"testing"

	"adjoint/api"
	"adjoint/train"
)

// wantOrder: this is the order.
func wantOrder(t *testing.T, seed string, rows, epoch int, want ...int) {
	t.Helper()
	if got, err := train.Order(seed, rows, epoch); err != api.OK || !slices.Equal(got, want) {
		t.Errorf("Order of %q, %d, %d: %s and %d come, not %s", short(seed), rows, epoch, short(got), err, short(want))
	}
}

// W2: the example, and orders that were worked out by hand.
func TestW2Numbers(t *testing.T) {
	wantOrder(t, "", 5, 0, 3, 2, 0, 1, 4)
	// Of the empty seed and epoch 0 s is 1; then 7806831264735756412, which is 908834774 times 2^33 and some, and 908834774 is even: so the second one is exchanged with the first one.
	wantOrder(t, "", 2, 0, 1, 0)
	// Of 3 rows 908834774 modulo 3 is 2: the last one stays. Then s is 9396908728118811419, which is 1093944153 times 2^33 and some, and that is odd: the second one stays too.
	wantOrder(t, "", 3, 0, 0, 1, 2)
	// Of epoch 1 s is 2, then 14170967488582549417, which is 1649717740 times 2^33 and some.
	wantOrder(t, "", 2, 1, 1, 0)
	// Of the byte 97 s is 98; of epoch 0 then 107752139564679; then 450880080234987530 and 2449582729139075345, which are 52489349 and 285168961 times 2^33 and some: both stay.
	wantOrder(t, "a", 3, 0, 0, 1, 2)
	// Of the byte 255 s is 256; of epoch 2 then 281474976822019; then 16001660187094119894, which is 1862838420 times 2^33 and some, and 3 divides that: the last one goes ahead. Then 951451727, which is odd.
	wantOrder(t, "\xff", 3, 2, 2, 1, 0)
	wantOrder(t, "", 0, 0)
	wantOrder(t, "seed", 0, 7)
	wantOrder(t, "", 1, 0, 0)
	wantOrder(t, "seed", 1, 9, 0)
}

// seeds are those that differ in what their bytes could be mistaken for.
func seeds() []string {
	return []string{
		"", "\x00", "\x00\x00", "\x01", "s", "seed", "dees", "\xff", "\x80", "\x7f", "\xff\xfe\xfd", "\xc3\xa4", "ä", "a€b", "\xed\xa0\x80", "\n",
		strings.Repeat("long ", 1000), strings.Repeat("\xff", 4096),
	}
}

// W2: rows and epochs up to both ends, of seeds of all kinds.
func TestW2ByHand(t *testing.T) {
	for _, seed := range seeds() {
		for _, rows := range l(0, 1, 2, 3, 4, 5, 16, 17, 100) {
			for _, epoch := range l(0, 1, 2, 255, 256, allSteps-1, allSteps) {
				wantOrder(t, seed, rows, epoch, orderByHand(seed, rows, epoch)...)
			}
		}
	}
	for _, rows := range l(full-1, full) {
		for _, epoch := range l(0, allSteps) {
			wantOrder(t, "seed", rows, epoch, orderByHand("seed", rows, epoch)...)
		}
	}
}

// W2: each row has its turn once.
func TestW2Once(t *testing.T) {
	for _, seed := range seeds() {
		for _, rows := range l(0, 1, 2, 7, 64, full) {
			got, _ := train.Order(seed, rows, rows%5)
			seen := make([]int, rows)
			for _, row := range got {
				if row < 0 || row >= rows {
					t.Fatalf("row %d of %d comes", row, rows)
				}
				seen[row]++
			}
			if len(got) != rows || slices.ContainsFunc(seen, func(n int) bool { return n != 1 }) {
				t.Errorf("%q, %d rows: the rows have their turn %s times", short(seed), rows, short(seen))
			}
		}
	}
}

// W2: seeds and epochs that differ make orders that differ.
func TestW2Differ(t *testing.T) {
	known := map[string]int{}
	for _, seed := range seeds() {
		for epoch := range 5 {
			got, _ := train.Order(seed, 64, epoch)
			known[short(got)]++
		}
	}
	// The bytes of ä stand there twice.
	if want := 5 * (len(seeds()) - 1); len(known) != want {
		t.Errorf("there are %d orders, not %d", len(known), want)
	}
}

// W2: rows and epochs beyond both ends.
func TestW2Range(t *testing.T) {
	for _, x := range [][2]int{
		{-1, 0}, {full + 1, 0}, {least, 0}, {most, 0}, {5, -1}, {5, allSteps + 1}, {5, least}, {5, most},
		{0, -1}, {0, allSteps + 1}, {full, -1}, {full, allSteps + 1}, {-1, allSteps}, {full + 1, allSteps}, {-1, -1}, {full + 1, allSteps + 1}, {least, most}, {1 << 32, 1 << 32},
	} {
		for _, seed := range l(0, 1, 5) {
			if got, err := train.Order(seeds()[seed], x[0], x[1]); err != api.ErrRange || len(got) != 0 {
				t.Errorf("%d rows, epoch %d: %s and %d come", x[0], x[1], short(got), err)
			}
		}
	}
}
