package alike_test

import (
	"fmt"
	"slices"
	"strings"
	"testing"

	"adjoint/api"
	"adjoint/array"
	"adjoint/view"
)

// line is a form: an operation on classes, in a class.
type line struct {
	op    api.Op
	args  []int
	class int
}

func (f line) String() string {
	op := f.op
	return fmt.Sprint(op.Kind, op.Value, len(op.Dims), op.Dims, len(op.At), op.At, op.Lo, op.Hi, op.Step, f.args)
}

// book is what the words of L1 speak of: forms and classes. A class that has become one with another is told by that one's number everywhere.
type book struct {
	lines []line
	node  []int         // the class of each node
	dims  map[int][]int // of each class
	there map[string]int
}

// begin is a book of the nodes of a tidy graph.
func begin(g api.Graph) *book {
	b := &book{dims: map[int][]int{}, there: map[string]int{}}
	for _, node := range g.Nodes {
		b.node = append(b.node, b.class(node.Op, node.Args))
	}
	return b
}

// class is that of an operation on classes, which is written down if it is not there.
func (b *book) class(op api.Op, args []int) int {
	f := line{op, slices.Clone(args), len(b.dims)}
	if class, ok := b.there[f.String()]; ok {
		return class
	}
	var of [][]int
	for _, class := range args {
		of = append(of, b.dims[class])
	}
	dims, err := array.Dims(op, of)
	if op.Kind == api.Param {
		dims, err = op.Dims, api.OK
	}
	if err != api.OK {
		panic(fmt.Sprint("no form: ", f, " on ", of))
	}
	b.dims[f.class], b.there[f.String()] = dims, f.class
	b.lines = append(b.lines, f)
	return f.class
}

// match is one way in which a rule fits: the forms in the order in which the rule's left side tells them, and what its letters stand for.
type match struct {
	*book
	forms   []line
	letters map[byte]int
}

// rule is a row of L3's table, its left side with what stands in classes written in their places. On the right Own is the form's own operation, New another one, N a number everywhere.
type rule struct {
	left, right string
	when        func(m match) bool
	number      func(m match) int64
	op          func(m match) api.Op
}

var kindNames = map[string]int{"Fill": api.Fill, "Add": api.Add, "Sub": api.Sub, "Mul": api.Mul, "Max": api.Max, "Pick": api.Pick, "Spread": api.Spread,
	"Sum": api.Sum, "Turn": api.Turn, "Reform": api.Reform, "Flip": api.Flip, "Dot": api.Dot}

// table is L3's.
func table() []rule {
	value := func(m match, k int) int64 { return m.forms[k].op.Value }
	last := func(n int64) func(m match) bool {
		return func(m match) bool { return value(m, len(m.forms)-1) == n }
	}
	always := func(n int64) func(m match) int64 { return func(match) int64 { return n } }
	at := func(m match, k int) []int { return m.forms[k].op.At }
	dimsOf := func(m match, k int) []int { return m.dims[m.forms[k].class] }
	same := func(m match) int64 { return value(m, 1) }
	summed := func(m match) int64 {
		times := int64(1)
		for _, k := range at(m, 0) {
			times *= int64(dimsOf(m, 1)[k])
		}
		return times
	}
	return []rule{
		{left: "Add(a,b)", right: "Add(b,a)"},
		{left: "Add(Add(d,b),c)", right: "Add(d,Add(b,c))"},
		{left: "Add(Fill,Fill)", right: "N", number: func(m match) int64 { return value(m, 1) + value(m, 2) }},
		{left: "Add(a,Fill)", when: last(0), right: "a"},
		{left: "Add(Mul(c,d),Mul(c,e))", right: "Mul(c,Add(d,e))"},
		{left: "Mul(a,b)", right: "Mul(b,a)"},
		{left: "Mul(Mul(d,b),c)", right: "Mul(d,Mul(b,c))"},
		{left: "Mul(Fill,Fill)", right: "N", number: func(m match) int64 { return value(m, 1) * value(m, 2) }},
		{left: "Mul(a,Fill)", when: last(1), right: "a"},
		{left: "Mul(a,Fill)", when: last(0), right: "N", number: always(0)},
		{left: "Mul(a,Add(c,d))", right: "Add(Mul(a,c),Mul(a,d))"},
		{left: "Sub(a,b)", right: "Add(a,Mul(N,b))", number: always(-1)},
		{left: "Sub(a,a)", right: "N", number: always(0)},
		{left: "Max(a,b)", right: "Max(b,a)"},
		{left: "Max(a,a)", right: "a"},
		{left: "Pick(a,b,b)", right: "b"},
		{left: "Spread(Fill)", right: "N", number: same},
		{left: "Sum(a)", when: func(m match) bool { return len(at(m, 0)) == 0 }, right: "a"},
		{left: "Sum(Fill)", right: "N", number: func(m match) int64 { return value(m, 1) * summed(m) }},
		{left: "Sum(Sum(b))", right: "New(b)", op: func(m match) api.Op {
			return api.Op{Kind: api.Sum, At: overBoth(at(m, 0), at(m, 1), len(m.dims[m.letters['b']]))}
		}},
		{left: "Sum(Add(b,c))", right: "Add(Own(b),Own(c))"},
		{left: "Sum(Spread(b))", when: func(m match) bool {
			all := slices.Sorted(slices.Values(append(slices.Clone(at(m, 0)), at(m, 1)...)))
			return slices.Equal(all, upTo(len(dimsOf(m, 1))))
		}, right: "Mul(b,N)", number: summed},
		{left: "Turn(a)", when: func(m match) bool { return slices.IsSorted(at(m, 0)) }, right: "a"},
		{left: "Flip(a)", when: func(m match) bool { return len(at(m, 0)) == 0 }, right: "a"},
		{left: "Reform(a)", when: func(m match) bool { return fmt.Sprint(m.forms[0].op.Dims) == fmt.Sprint(m.dims[m.letters['a']]) }, right: "a"},
		{left: "Turn(Turn(b))", right: "New(b)", op: func(m match) api.Op {
			op := api.Op{Kind: api.Turn}
			for _, k := range at(m, 0) {
				op.At = append(op.At, at(m, 1)[k])
			}
			return op
		}},
		{left: "Flip(Flip(b))", right: "New(b)", op: func(m match) api.Op {
			op := api.Op{Kind: api.Flip}
			for k := range 6 {
				if slices.Contains(at(m, 0), k) != slices.Contains(at(m, 1), k) {
					op.At = append(op.At, k)
				}
			}
			return op
		}},
		{left: "Reform(Reform(b))", right: "Own(b)"},
		{left: "Turn(Add(b,c))", right: "Add(Own(b),Own(c))"},
		{left: "Turn(Mul(b,c))", right: "Mul(Own(b),Own(c))"},
		{left: "Dot(Dot(d,b),c)", when: func(m match) bool {
			for _, f := range m.forms {
				if fmt.Sprint(f.op.At, f.op.Step, len(f.op.Lo), len(f.op.Hi)) != "[1] [0] 0 0" || len(m.dims[f.args[0]]) != 2 || len(m.dims[f.args[1]]) != 2 {
					return false
				}
			}
			_, err := view.Size(l(m.dims[m.letters['b']][0], m.dims[m.letters['c']][1]))
			return err == api.OK
		}, right: "Own(d,Own(b,c))"},
	}
}

// upTo are the numbers from 0 on, below n.
func upTo(n int) []int {
	out := make([]int, n)
	for k := range out {
		out[k] = k
	}
	return out
}

// overBoth are the dimensions, of so many, that are summed if first those of inner are, then those of outer (of what is left).
func overBoth(outer, inner []int, rank int) []int {
	var out []int
	left := 0
	for k := range rank {
		gone := slices.Contains(inner, k)
		if gone || slices.Contains(outer, left) {
			out = append(out, k)
		}
		if !gone {
			left++
		}
	}
	return out
}

// parts takes apart what stands before the bracket and, piece by piece, what stands in it.
func parts(s string) (name string, kids []string) {
	name, rest, some := strings.Cut(s, "(")
	if !some {
		return s, nil
	}
	depth, from := 0, 0
	for i, c := range rest {
		switch {
		case c == '(':
			depth++
		case c == ')' && depth > 0:
			depth--
		case c == ')' || c == ',' && depth == 0:
			kids, from = append(kids, rest[from:i]), i+1
		}
	}
	return name, kids
}

// fits are all ways in which a pattern fits a class (or, if some form is told, that form), each on top of what is matched already.
func (m match) fits(pattern string, class int, form ...line) []match {
	name, kids := parts(pattern)
	kind, isKind := kindNames[name]
	if !isKind {
		if there, ok := m.letters[name[0]]; ok && there != class {
			return nil
		}
		letters := map[byte]int{name[0]: class}
		for k, v := range m.letters {
			letters[k] = v
		}
		return []match{{m.book, m.forms, letters}}
	}
	var out []match
	if len(form) == 0 {
		form = m.in(class)
	}
	for _, f := range form {
		if f.op.Kind != kind {
			continue
		}
		ways := []match{{m.book, append(slices.Clone(m.forms), f), m.letters}}
		for k, kid := range kids {
			var more []match
			for _, way := range ways {
				more = append(more, way.fits(kid, f.args[k])...)
			}
			ways = more
		}
		out = append(out, ways...)
	}
	return out
}

// in are the forms in a class.
func (b *book) in(class int) []line {
	var out []line
	for _, f := range b.lines {
		if f.class == class {
			out = append(out, f)
		}
	}
	return out
}

// say is the class of a right side.
func (m match) say(r rule, right string) int {
	name, kids := parts(right)
	var args []int
	for _, kid := range kids {
		args = append(args, m.say(r, kid))
	}
	switch name {
	case "N":
		return m.class(api.Op{Kind: api.Fill, Value: r.number(m), Dims: m.dims[m.forms[0].class]}, nil)
	case "Own":
		return m.class(m.forms[0].op, args)
	case "New":
		return m.class(r.op(m), args)
	}
	if kind, ok := kindNames[name]; ok {
		return m.class(api.Op{Kind: kind}, args)
	}
	return m.letters[name[0]]
}

// round is one, by the words of L1: first all ways are found, then all that they say is written down, then classes become one. It tells how many ways each rule fitted.
func (b *book) round(fitted map[string]int) {
	var said [][2]int
	type way struct {
		rule
		match
	}
	var ways []way
	for _, f := range b.lines {
		for _, r := range table() {
			for _, m := range (match{book: b}).fits(r.left, f.class, f) {
				if r.when == nil || r.when(m) {
					ways = append(ways, way{r, m})
					fitted[r.left+" "+r.right]++
				}
			}
		}
	}
	for _, w := range ways {
		said = append(said, [2]int{w.forms[0].class, w.say(w.rule, w.right)})
	}
	now := map[int]int{}
	var is func(class int) int
	is = func(class int) int {
		if to, ok := now[class]; ok {
			return is(to)
		}
		return class
	}
	one := func(a, c int) {
		if a, c = is(a), is(c); a != c {
			now[c] = a
		}
	}
	for _, two := range said {
		one(two[0], two[1])
	}
	for again := true; again; {
		again = false
		b.there = map[string]int{}
		var kept []line
		for _, f := range b.lines {
			f.args, f.class = slices.Clone(f.args), is(f.class)
			for k := range f.args {
				f.args[k] = is(f.args[k])
			}
			twin, ok := b.there[f.String()]
			if !ok {
				b.there[f.String()] = f.class
				kept = append(kept, f)
			} else if is(twin) != is(f.class) {
				one(twin, f.class)
				again = true
			}
		}
		b.lines = kept
		for key, class := range b.there {
			b.there[key] = is(class)
		}
		for k := range b.lines {
			b.lines[k].class = is(b.lines[k].class)
		}
	}
	for k := range b.node {
		b.node[k] = is(b.node[k])
	}
}

// classes are, of each node, the first one in its class.
func (b *book) classes() []int {
	var out []int
	for _, class := range b.node {
		out = append(out, slices.Index(b.node, class))
	}
	return out
}

// least is what the lightest trees of these nodes weigh, found by how deep trees are: heavy, if one is heavier than MaxWeight.
func (b *book) least(nodes []int) (out []int, heavy bool) {
	const none = 1 << 41
	best := map[int]int{}
	for _, f := range b.lines {
		best[f.class] = none
	}
	for range len(b.lines) + 1 {
		deeper := map[int]int{}
		for class := range best {
			deeper[class] = none
		}
		for _, f := range b.lines {
			weight := 0
			var of [][]int
			for _, class := range f.args {
				weight = min(none, weight+best[class])
				of = append(of, b.dims[class])
			}
			if f.op.Kind != api.Param {
				own, _ := array.Weight(f.op, of)
				weight += own
			}
			deeper[f.class] = min(deeper[f.class], weight)
		}
		best = deeper
	}
	for _, at := range nodes {
		out = append(out, best[b.node[at]])
		heavy = heavy || best[b.node[at]] > api.MaxWeight
	}
	return out, heavy
}

// find is the class of a node of another graph, whose args are in these classes: -1, if no such form is there.
func (b *book) find(op api.Op, classes []int) int {
	class, ok := b.there[line{op: array.Plain(op), args: classes}.String()]
	if !ok {
		return -1
	}
	return class
}

// The rules in words_test.go can be told from each other, so that it can be counted how often each fits.
func TestTableOfTheTests(t *testing.T) {
	seen := map[string]int{}
	for _, r := range table() {
		seen[r.left+" "+r.right]++
	}
	if len(seen) != len(table()) || len(table()) != 31 {
		t.Errorf("%d rules of %d", len(seen), len(table()))
	}
}
