package alike

import (
	"iter"
	"maps"
	"slices"

	"adjoint/api"
	"adjoint/array"
	"adjoint/known"
	"adjoint/list"
)

// classes are numbers from 0 on that can become one: each tells a lower one that it has become one with; else itself.
type classes []int

// next is a class more.
func (c *classes) next() int {
	*c = append(*c, len(*c))
	return len(*c) - 1
}

// lowest is the lowest number of a class.
func (c classes) lowest(class int) int {
	for c[class] != class {
		// What is far gets nearer, so that the next one who asks finds it sooner.
		c[class] = c[c[class]]
		class = c[class]
	}
	return class
}

// unite makes two classes one, and tells whether they were two.
func (c classes) unite(a, b int) bool {
	a, b = c.lowest(a), c.lowest(b)
	c[max(a, b)] = min(a, b)
	return a != b
}

// deck is a tidy graph, and the forms that come of it. A form is a node whose args are classes.
type deck struct {
	api.Graph
	classes
	dims  [][]int            // those of each class
	forms map[int][]api.Node // of each class those in it
	known map[string]int     // the class of each form, by what it is
}

// class is that of a plain operation on classes: a new one, if there is no such form yet.
func (d *deck) class(op api.Op, args ...int) int {
	key := known.Key(op, args)
	class, ok := d.known[key]
	if !ok {
		class = d.next()
		d.known[key] = class
		d.forms[class] = []api.Node{{Op: op, Args: args}}
		d.dims = append(d.dims, d.made(op, args))
	}
	return class
}

// made are the dimensions that an operation makes of classes that it fits.
func (d *deck) made(op api.Op, args []int) []int {
	if op.Kind == api.Param {
		return op.Dims
	}
	dims, _ := array.Dims(op, list.These(d.dims, args))
	return dims
}

// many is how many forms there are.
func (d *deck) many() int {
	many := 0
	for _, forms := range d.forms {
		many += len(forms)
	}
	return many
}

// all are the numbers of the classes that there are.
func (d *deck) all() []int { return slices.Sorted(maps.Keys(d.forms)) }

// given are the classes that the graph gives.
func (d *deck) given() []int { return list.Each(d.Outs, d.lowest) }

// of goes through the forms of a kind in a class.
func (d *deck) of(kind, class int) iter.Seq[api.Node] {
	return func(yield func(api.Node) bool) {
		for _, form := range d.forms[class] {
			if form.Op.Kind == kind && !yield(form) {
				return
			}
		}
	}
}

// round adds what the rules say of all forms. What is added stands in new classes until all rules have been asked, so they are asked of the forms as they stand at its beginning.
func (d *deck) round() {
	var said [][2]int
	for _, class := range d.all() {
		for _, form := range d.forms[class] {
			for _, same := range d.rules(class, form) {
				said = append(said, [2]int{class, same})
			}
		}
	}
	for _, two := range said {
		d.unite(two[0], two[1])
	}
	for d.settle() {
	}
}

// settle tells each form anew, on the classes as they are now, and makes the classes of two that are the same one: true, if there were such, as others may have become the same by it.
func (d *deck) settle() bool {
	were, again := d.forms, false
	order := d.all()
	d.forms, d.known = map[int][]api.Node{}, map[string]int{}
	for _, was := range order {
		for _, form := range were[was] {
			form.Args = list.Each(form.Args, d.lowest)
			key := known.Key(form.Op, form.Args)
			class := d.lowest(was)
			if twin, ok := d.known[key]; ok {
				again = d.unite(twin, class) || again
				continue
			}
			d.known[key] = class
			d.forms[class] = append(d.forms[class], form)
		}
	}
	return again
}
