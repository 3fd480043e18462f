package sense

import "adjoint/api"

// Values tell what the values of a program are: it means the same over arrays, over their dimensions alone, and over whatever else operations can be made on.
type Values[V any] struct {
	Wrong func(v V) api.Errno                      // what is wrong with a value that is handed in
	Dims  func(v V) []int                          // the dimensions of a value; they are only read
	Do    func(op api.Op, args []V) (V, api.Errno) // what an operation makes; neither its lists nor the arguments' are its own
}

// Worth is what a function is worth, of these arguments, over values of any kind. It may be one of the arguments.
func Worth[V any](p []api.Func, name string, args []V, are Values[V]) (V, api.Errno) {
	var out V
	if err := Wrong(p); err != api.OK {
		return out, err
	}
	err := told(func() {
		c := course[V]{Values: are, funcs: map[string]*api.Func{}}
		for i := range p {
			c.funcs[p[i].Name] = &p[i]
		}
		out = c.begin(name, args)
	})
	return out, err
}

// course goes through a program of which nothing is wrong, and throws the first error that comes.
type course[V any] struct {
	Values[V]
	funcs map[string]*api.Func
	steps int
}

// frame is what names stand for in one call of a function.
type frame[V any] struct {
	stand map[string]V
	sizes map[string]int
}

// begin is what the function that is asked for is worth.
func (c *course[V]) begin(name string, args []V) V {
	f, ok := c.funcs[name]
	demand(ok, api.ErrName)
	demand(len(args) == len(f.Given), api.ErrMany)
	return c.enter(f, args)
}

// enter is what a function's body is worth. What is wrong with a value is asked of all arguments: nothing is, of one that was made within.
func (c *course[V]) enter(f *api.Func, args []V) V {
	in := frame[V]{stand: make(map[string]V, len(f.Given)), sizes: map[string]int{}}
	for i, given := range f.Given {
		err := c.Wrong(args[i])
		demand(err == api.OK, err)
		demand(in.fits(given.Dims, c.Dims(args[i])), api.ErrShape)
		in.stand[given.Name] = args[i]
	}
	return c.worth(in, &f.Body)
}

// fits tells whether a parameter's dimensions can be these, and keeps what names stand for now.
func (in frame[V]) fits(given []api.Dim, dims []int) bool {
	if len(given) != len(dims) {
		return false
	}
	for k, dim := range given {
		size, stood := dim.Size, true
		if dim.Name != "" {
			size, stood = in.sizes[dim.Name]
		}
		if !stood {
			in.sizes[dim.Name] = dims[k]
		} else if size != dims[k] {
			return false
		}
	}
	return true
}

// worth is what a tree is worth.
func (c *course[V]) worth(in frame[V], t *api.Tree) V {
	switch t.Kind {
	case api.TreeNumber:
		return c.do(api.Op{Kind: api.Fill, Value: t.Number})
	case api.TreeName:
		return in.stand[t.Name]
	case api.TreeLet:
		return c.let(in, t, c.worth(in, &t.Kids[0]))
	case api.TreeRepeat:
		return c.repeat(in, t)
	}
	args := make([]V, len(t.Kids))
	for i := range t.Kids {
		args[i] = c.worth(in, &t.Kids[i])
	}
	o, ok := owned(t.Name)
	if !ok {
		c.step()
		return c.enter(c.funcs[t.Name], args)
	}
	if o.entryByEntry() {
		c.spread(args)
	}
	return c.do(o.op(t.Lists, in.shape(t.Shape)), args...)
}

// let is what the second kid of a tree is worth, while its name stands for v.
func (c *course[V]) let(in frame[V], t *api.Tree, v V) V {
	was := in.stand[t.Name]
	in.stand[t.Name] = v
	out := c.worth(in, &t.Kids[1])
	// If it stood for nothing, nobody asks for it.
	in.stand[t.Name] = was
	return out
}

func (c *course[V]) repeat(in frame[V], t *api.Tree) V {
	demand(t.Number <= api.MaxTimes, api.ErrRange)
	v := c.worth(in, &t.Kids[0])
	for range t.Number {
		c.step()
		v = c.let(in, t, v)
	}
	return v
}

// shape are the dimensions that a shape stands for.
func (in frame[V]) shape(shape []api.Dim) []int {
	out := make([]int, len(shape))
	for k, dim := range shape {
		out[k] = dim.Size
		if dim.Name != "" {
			out[k] = in.sizes[dim.Name]
		}
	}
	return out
}

// spread puts, in the place of values without dimensions, such as have those of the first one that has some.
func (c *course[V]) spread(args []V) {
	var dims []int
	for _, v := range args {
		if len(dims) == 0 {
			dims = c.Dims(v)
		}
	}
	if len(dims) == 0 {
		return
	}
	for i, v := range args {
		if len(c.Dims(v)) == 0 {
			args[i] = c.do(api.Op{Kind: api.Spread, Dims: dims}, v)
		}
	}
}

// do makes an operation, which is a step.
func (c *course[V]) do(op api.Op, args ...V) V {
	c.step()
	out, err := c.Do(op, args)
	demand(err == api.OK, err)
	return out
}

// step counts what is about to be done: where there is too much of it, nothing else that is wrong with it is told.
func (c *course[V]) step() {
	c.steps++
	demand(c.steps <= api.MaxOps, api.ErrMuch)
}
