package train

import (
	"slices"

	"adjoint/api"
	"adjoint/array"
	"adjoint/graph"
	"adjoint/list"
	"adjoint/slope"
	"adjoint/text"
)

// course is what a training goes by, from its first step to its last one.
type course struct {
	tells        api.Graph // gives what the weights are told: of them, a row and the number 1
	dims         []int     // of the weights
	data         api.Array // the rows
	batch, every int
	rate, keep   int64
	seed         uint64 // what the bytes of the plan's seed make
}

// planned is the course of a plan, or what is wrong with the plan and its data. It has all of its lists in memory of its own.
func planned(p api.Plan, data api.Array) (course, api.Errno) {
	tells, err := teller(p)
	if err != api.OK {
		return course{}, err
	}
	if err := wrongRows(p, data); err != api.OK {
		return course{}, err
	}
	return course{
		tells: tells,
		dims:  list.Fresh(p.Dims),
		data:  api.Array{Dims: list.Fresh(data.Dims), Data: list.Fresh(data.Data)},
		batch: p.Batch,
		every: p.Every,
		rate:  p.Rate,
		keep:  p.Keep,
		seed:  seeded(p.Seed),
	}, api.OK
}

// teller is the graph of what the weights are told, or what is wrong with the plan's program.
func teller(p api.Plan) (api.Graph, api.Errno) {
	program, fault := text.Read(p.Text)
	if fault.Err != api.OK {
		return api.Graph{}, fault.Err
	}
	loss, err := graph.Build(program, p.Loss, [][]int{p.Dims, p.Row})
	if err != api.OK {
		return api.Graph{}, err
	}
	// Nothing is wrong with what Build has made.
	dims, _ := graph.Dims(loss)
	if len(dims[loss.Outs[0]]) > 0 {
		return api.Graph{}, api.ErrShape
	}
	all, err := slope.Reverse(loss)
	if err != api.OK {
		return api.Graph{}, err
	}
	// What the row would be told nobody needs.
	return graph.Tidy(api.Graph{Nodes: all.Nodes, Outs: all.Outs[:1]})
}

// wrongRows is what is wrong with the data, and with the plan's numbers.
func wrongRows(p api.Plan, data api.Array) api.Errno {
	if err := array.Wrong(data); err != api.OK {
		return err
	}
	if len(data.Dims) == 0 || !slices.Equal(data.Dims[1:], p.Row) {
		return api.ErrShape
	}
	rows := data.Dims[0]
	if p.Batch < 1 || p.Every < 1 || rows < 1 || rows%p.Batch != 0 {
		return api.ErrRange
	}
	return api.OK
}

// rows is how many rows there are.
func (c *course) rows() int { return c.data.Dims[0] }

// row is the row with a number.
func (c *course) row(number int) api.Array {
	words := len(c.data.Data) / c.rows()
	return api.Array{Dims: c.data.Dims[1:], Data: c.data.Data[number*words : (number+1)*words]}
}

// turn are the numbers of the rows that a step takes.
func (c *course) turn(step int) []int {
	epoch := c.rows() / c.batch
	at := step % epoch * c.batch
	return mixed(c.seed, c.rows(), step/epoch)[at : at+c.batch]
}

// told is the sum of what the weights are told by these rows.
func (c *course) told(weights []int64, rows []int) []int64 {
	sum := make([]int64, len(weights))
	for _, number := range rows {
		args := []api.Array{{Dims: c.dims, Data: weights}, c.row(number), {Data: []int64{1}}}
		// They have the dimensions for which the graph was made.
		out, _ := graph.Eval(c.tells, args)
		for i, word := range out[0].Data {
			sum[i] += word
		}
	}
	return sum
}
