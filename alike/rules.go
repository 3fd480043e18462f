package alike

import (
	"slices"

	"adjoint/api"
	"adjoint/array"
	"adjoint/list"
	"adjoint/view"
)

// asked is a form, of which the rules are asked.
type asked struct {
	*deck
	api.Node
	own  int   // the class that it is in
	same []int // the classes that its own is one with
}

// rules are the classes that a form's class is one with: one for each way in which a rule fits the form.
func (d *deck) rules(class int, form api.Node) []int {
	f := &asked{deck: d, Node: form, own: class}
	switch form.Op.Kind {
	case api.Add:
		f.added(f.Args[0], f.Args[1])
	case api.Mul:
		f.multiplied(f.Args[0], f.Args[1])
	case api.Sub:
		f.subtracted(f.Args[0], f.Args[1])
	case api.Max:
		f.swapped(f.Args[0], f.Args[1])
		f.equal(f.Args[0], f.Args[1])
	case api.Pick:
		f.equal(f.Args[1], f.Args[2])
	case api.Spread:
		f.filled(f.Args[0], 1)
	case api.Sum:
		f.summed(f.Args[0])
	case api.Turn, api.Flip, api.Reform:
		f.moved(f.Args[0])
	case api.Dot:
		f.dotted(f.Args[0], f.Args[1])
	}
	return f.same
}

// is says that the form's class is one with this one.
func (f *asked) is(class int) { f.same = append(f.same, class) }

// again is the class of the form's own operation, with its fields, on other classes.
func (f *asked) again(args ...int) int { return f.class(f.Op, args...) }

// two is the class of an operation without fields on two classes.
func (f *asked) two(kind, a, b int) int { return f.class(api.Op{Kind: kind}, a, b) }

// full is the class of one number everywhere, with the dimensions of the form's own class.
func (f *asked) full(n int64) int {
	return f.class(api.Op{Kind: api.Fill, Dims: f.dims[f.own], Value: n})
}

func (f *asked) added(a, b int) {
	f.swapped(a, b)
	f.regrouped(a, b)
	f.worked(a, b, func(x, y int64) int64 { return x + y })
	if f.holds(b, 0) {
		f.is(a)
	}
	for left := range f.of(api.Mul, a) {
		for right := range f.of(api.Mul, b) {
			if left.Args[0] == right.Args[0] {
				f.is(f.two(api.Mul, left.Args[0], f.two(api.Add, left.Args[1], right.Args[1])))
			}
		}
	}
}

func (f *asked) multiplied(a, b int) {
	f.swapped(a, b)
	f.regrouped(a, b)
	f.worked(a, b, func(x, y int64) int64 { return x * y })
	if f.holds(b, 1) {
		f.is(a)
	}
	if f.holds(b, 0) {
		f.is(f.full(0))
	}
	for sum := range f.of(api.Add, b) {
		f.is(f.two(api.Add, f.again(a, sum.Args[0]), f.again(a, sum.Args[1])))
	}
}

func (f *asked) subtracted(a, b int) {
	f.is(f.two(api.Add, a, f.two(api.Mul, f.full(-1), b)))
	if a == b {
		f.is(f.full(0))
	}
}

func (f *asked) summed(a int) {
	if len(f.Op.At) == 0 {
		f.is(a)
	}
	f.filled(a, product(list.These(f.dims[a], f.Op.At)))
	for sum := range f.of(api.Sum, a) {
		b := sum.Args[0]
		kept := list.Others(len(f.dims[b]), sum.Op.At)
		at := append(list.These(kept, f.Op.At), sum.Op.At...)
		slices.Sort(at)
		f.is(f.class(api.Op{Kind: api.Sum, At: at}, b))
	}
	f.parted(api.Add, a)
	for wide := range f.of(api.Spread, a) {
		if slices.Equal(list.Others(len(wide.Op.Dims), wide.Op.At), f.Op.At) {
			times := product(list.These(wide.Op.Dims, f.Op.At))
			f.is(f.two(api.Mul, wide.Args[0], f.full(times)))
		}
	}
}

// moved asks of forms that have the same numbers in other places.
func (f *asked) moved(a int) {
	if f.stays(a) {
		f.is(a)
	}
	for first := range f.of(f.Op.Kind, a) {
		f.is(f.class(f.both(first.Op, len(f.dims[a])), first.Args[0]))
	}
	if f.Op.Kind == api.Turn {
		f.parted(api.Add, a)
		f.parted(api.Mul, a)
	}
}

// stays tells whether the form leaves all numbers of a class where they are.
func (f *asked) stays(a int) bool {
	switch f.Op.Kind {
	case api.Turn:
		return slices.Equal(f.Op.At, list.Others(len(f.Op.At)))
	case api.Flip:
		return len(f.Op.At) == 0
	}
	return slices.Equal(f.Op.Dims, f.dims[a])
}

// both is what the form's operation is together with one of its kind that comes first, with so many dimensions.
func (f *asked) both(first api.Op, rank int) api.Op {
	switch f.Op.Kind {
	case api.Turn:
		return api.Op{Kind: api.Turn, At: list.These(first.At, f.Op.At)}
	case api.Flip:
		flips := slices.DeleteFunc(list.Others(rank), func(k int) bool {
			return slices.Contains(first.At, k) == slices.Contains(f.Op.At, k)
		})
		return api.Op{Kind: api.Flip, At: flips}
	}
	return f.Op
}

// dotted asks of products of matrices.
func (f *asked) dotted(a, c int) {
	if !f.matrices(f.Node) {
		return
	}
	for first := range f.of(api.Dot, a) {
		d, b := first.Args[0], first.Args[1]
		// What would stand between may be too great, though what comes of it is not.
		if f.matrices(first) && isArray(f.dims[b][0], f.dims[c][1]) {
			f.is(f.again(d, f.again(b, c)))
		}
	}
}

// matrices tells whether a Dot is a product of matrices.
func (f *asked) matrices(dot api.Node) bool {
	two := func(class int) bool { return len(f.dims[class]) == 2 }
	return two(dot.Args[0]) && two(dot.Args[1]) &&
		array.Same(dot.Op, api.Op{Kind: api.Dot, At: []int{1}, Step: []int{0}})
}

// swapped asks of two that may change places.
func (f *asked) swapped(a, b int) { f.is(f.again(b, a)) }

// regrouped asks of three of which the last two may come first.
func (f *asked) regrouped(a, c int) {
	for first := range f.of(f.Op.Kind, a) {
		f.is(f.again(first.Args[0], f.again(first.Args[1], c)))
	}
}

// worked asks of numbers that can be worked out.
func (f *asked) worked(a, b int, do func(x, y int64) int64) {
	for x := range f.of(api.Fill, a) {
		for y := range f.of(api.Fill, b) {
			f.is(f.full(do(x.Op.Value, y.Op.Value)))
		}
	}
}

// filled asks of a number everywhere, which comes so many times.
func (f *asked) filled(a int, times int64) {
	for x := range f.of(api.Fill, a) {
		f.is(f.full(x.Op.Value * times))
	}
}

// equal asks of a choice of two.
func (f *asked) equal(a, b int) {
	if a == b {
		f.is(a)
	}
}

// parted asks of what may be done with each of two ahead of an operation of this kind on them.
func (f *asked) parted(kind, a int) {
	for both := range f.of(kind, a) {
		f.is(f.two(kind, f.again(both.Args[0]), f.again(both.Args[1])))
	}
}

// holds tells whether a class is full of this number.
func (f *asked) holds(class int, n int64) bool {
	for form := range f.of(api.Fill, class) {
		if form.Op.Value == n {
			return true
		}
	}
	return false
}

// product is that of some dimensions of an array: it does not wrap round.
func product(dims []int) int64 {
	many := int64(1)
	for _, dim := range dims {
		many *= int64(dim)
	}
	return many
}

// isArray tells whether these are dimensions of an array.
func isArray(dims ...int) bool {
	_, err := view.Size(dims)
	return err == api.OK
}
