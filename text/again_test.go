package text_test

import (
	"slices"
	"strings"
	"testing"

	"adjoint/api"
	"adjoint/text"
)

// dice tell numbers that look thrown, the same ones each time.
type dice uint64

func (d *dice) below(n int) int {
	*d = *d*6364136223846793005 + 1442695040888963407
	return int(uint64(*d)>>33) % n
}

func (d *dice) name() string { return []string{"x", "y1", "_", "In", "fnx"}[d.below(5)] }

func (d *dice) dims() []api.Dim {
	var dims []api.Dim
	for range d.below(4) {
		dims = append(dims, []api.Dim{dim("n"), dim("m"), dim(0), dim(37)}[d.below(4)])
	}
	return dims
}

// tree is a tree of at most so many trees within one another.
func (d *dice) tree(high int) api.Tree {
	kid := func() api.Tree { return d.tree(high - 1 - d.below(2)) }
	kind := d.below(9)
	if high <= 0 {
		kind = d.below(2)
	}
	switch kind {
	case 0:
		return num(int64(d.below(1000)))
	case 1:
		return name(d.name())
	case 2:
		t := call(d.name())
		if d.below(2) == 0 {
			t = shaped(t, d.dims()...)
		}
		for range d.below(3) {
			t.Lists = append(t.Lists, slices.Repeat([]int{d.below(12)}, d.below(3)))
		}
		for range d.below(3) {
			t.Kids = append(t.Kids, kid())
		}
		return t
	case 3:
		return let(d.name(), kid(), kid())
	case 4:
		return repeat(int64(d.below(70)), d.name(), kid(), kid())
	}
	return two([]string{"+", "-", "*", "*"}[kind-5], kid(), kid())
}

func (d *dice) program() []api.Func {
	var p []api.Func
	for range d.below(4) {
		f := fn(d.name(), d.tree(6))
		for range d.below(3) {
			f.Given = append(f.Given, given(d.name(), d.dims()...))
		}
		p = append(p, f)
	}
	return p
}

// What was printed is read again as it was, however it is spaced; and is printed again as it was.
func TestP5Again(t *testing.T) {
	d := dice(1)
	for range 3000 {
		p := d.program()
		printed, err := text.Print(p)
		if err != api.OK {
			t.Fatalf("Print of %s: %d", show(p), err)
		}
		again, f := text.Read(printed)
		if f != (api.Fault{}) || show(again) != show(p) {
			t.Fatalf("Read of %q: %v, %s comes, not %s", printed, f, show(again), show(p))
		}
		if twice, err := text.Print(again); err != api.OK || twice != printed {
			t.Fatalf("Print of what was read of %q: %q, %d", printed, twice, err)
		}
		tokens, _ := text.Tokens(printed)
		var words []string
		for _, token := range tokens {
			words = append(words, token.Text)
		}
		wide := strings.Join(words, " #?\r\n\t")
		if again, f := text.Read(wide); f != (api.Fault{}) || show(again) != show(p) {
			t.Fatalf("Read of %q: %v", wide, f)
		}
	}
}

// No brackets can be left out: without any two of them, something else is read, or nothing.
func TestP5FewestBrackets(t *testing.T) {
	d := dice(2)
	seen := 0
	for range 600 {
		p := d.program()
		printed, _ := text.Print(p)
		for _, pair := range brackets(printed) {
			less := printed[:pair[0]] + " " + printed[pair[0]+1:pair[1]] + " " + printed[pair[1]+1:]
			if again, f := text.Read(less); f == (api.Fault{}) && show(again) == show(p) {
				t.Fatalf("%q has brackets that may be left out: %q", printed, less)
			}
			seen++
		}
	}
	if seen < 500 {
		t.Errorf("only %d brackets were seen", seen)
	}
}

// brackets are the places of all round brackets, in pairs.
func brackets(s string) [][2]int {
	var open []int
	var pairs [][2]int
	for i := range len(s) {
		switch s[i] {
		case '(':
			open = append(open, i)
		case ')':
			last := len(open) - 1
			pairs = append(pairs, [2]int{open[last], i})
			open = open[:last]
		}
	}
	return pairs
}

// One space where the document says so, and no other one: no blank can be left out or doubled.
func TestP5Spaces(t *testing.T) {
	d := dice(3)
	for range 500 {
		printed, _ := text.Print(d.program())
		for i, line := range strings.SplitAfter(printed, "\n") {
			var out []string
			tokens, _ := text.Tokens(line)
			for k, token := range tokens {
				if k > 0 && spaced(tokens[k-1].Text, token.Text) {
					out = append(out, " ")
				}
				out = append(out, token.Text)
			}
			want := strings.Join(out, "")
			if want != "" {
				want += "\n"
			}
			if line != want {
				t.Fatalf("line %d: %q comes, not %q", i, line, want)
			}
		}
	}
}

// spaced tells whether a space stands between two tokens.
func spaced(a, b string) bool {
	around := " + - * = fn let in repeat with "
	is := func(token, such string) bool { return strings.Contains(such, " "+token+" ") }
	word := func(token string) bool { return strings.Contains(letters+digits, token[:1]) }
	switch {
	case is(b, " , ; ) ] } ") || is(a, " ( [ { "):
		return false
	case is(a, around) || is(b, around):
		return true
	}
	return is(a, " , : ") || word(a) && word(b)
}
