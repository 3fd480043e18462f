package view

import (
	"adjoint/api"
	"adjoint/list"
)

// Turn puts the dimensions into another order.
func Turn(v api.View, perm []int) (api.View, api.Errno) {
	if err := Wrong(v); err != api.OK {
		return api.View{}, err
	}
	if !permutes(perm, len(v.Dims)) {
		return api.View{}, api.ErrShape
	}
	out := blank(v.Start, v.Dims)
	for k, from := range perm {
		out.Dims[k], out.Steps[k] = v.Dims[from], v.Steps[from]
	}
	return reached(out)
}

// Flip goes through dimensions the other way round.
func Flip(v api.View, at []int) (api.View, api.Errno) {
	if err := Wrong(v); err != api.OK {
		return api.View{}, err
	}
	if !rises(at, len(v.Dims)) {
		return api.View{}, api.ErrShape
	}
	out := api.View{Start: v.Start, Dims: list.Fresh(v.Dims), Steps: list.Fresh(v.Steps)}
	for _, k := range at {
		// A dimension of 0 has no last entry to begin at.
		if v.Dims[k] > 0 {
			out.Start += (v.Dims[k] - 1) * v.Steps[k]
		}
		out.Steps[k] = -v.Steps[k]
	}
	return reached(out)
}

// Cut is a part: of each dimension from lo on, below hi, so many further each.
func Cut(v api.View, lo, hi, step []int) (api.View, api.Errno) {
	if err := Wrong(v); err != api.OK {
		return api.View{}, err
	}
	rank := len(v.Dims)
	if len(lo) != rank || len(hi) != rank || len(step) != rank {
		return api.View{}, api.ErrShape
	}
	out := blank(v.Start, v.Dims)
	for k, dim := range v.Dims {
		if lo[k] < 0 || lo[k] > hi[k] || hi[k] > dim || step[k] < 1 || step[k] > api.MaxDim {
			return api.View{}, api.ErrRange
		}
		out.Start += lo[k] * v.Steps[k]
		out.Dims[k] = (hi[k] - lo[k] + step[k] - 1) / step[k]
		out.Steps[k] = step[k] * v.Steps[k]
	}
	return reached(out)
}

// Spread is the same all along dimensions that are new.
func Spread(v api.View, dims, at []int) (api.View, api.Errno) {
	if err := Wrong(v); err != api.OK {
		return api.View{}, err
	}
	if _, err := Size(dims); err != api.OK {
		return api.View{}, err
	}
	if len(at) != len(v.Dims) || !rises(at, len(dims)) {
		return api.View{}, api.ErrShape
	}
	out := blank(v.Start, dims)
	for k, to := range at {
		if v.Dims[k] != dims[to] {
			return api.View{}, api.ErrShape
		}
		out.Steps[to] = v.Steps[k]
	}
	return reached(out)
}

// Reform reads the same in other dimensions.
func Reform(v api.View, dims []int) (api.View, api.Errno) {
	reads, err := Reads(v)
	if err != api.OK {
		return api.View{}, err
	}
	size, err := Size(dims)
	if err != api.OK {
		return api.View{}, err
	}
	if size != len(reads) {
		return api.View{}, api.ErrShape
	}
	out := blank(v.Start, dims)
	if size == 0 {
		return out, api.OK
	}
	for k, behind := range lastFirst(dims) {
		step, even := evenStep(reads, dims[k], behind)
		if !even {
			return api.View{}, api.ErrNone
		}
		out.Steps[k] = step
	}
	return reached(out)
}

// evenStep is the step of a dimension that would read the same, and whether there is one: whether two neighbours along it lie equally far apart everywhere. Looking at neighbours alone keeps what is reckoned small.
func evenStep(reads []int, dim, behind int) (int, bool) {
	if dim == 1 {
		return 0, true
	}
	step := reads[behind] - reads[0]
	for first := 0; first < len(reads); first += dim * behind {
		for p := first + behind; p < first+dim*behind; p++ {
			if reads[p]-reads[p-behind] != step {
				return 0, false
			}
		}
	}
	return step, true
}

// reached is a view that was made, unless it goes too far.
func reached(v api.View) (api.View, api.Errno) {
	if beyond(v) {
		return api.View{}, api.ErrMuch
	}
	return v, api.OK
}

// rises tells whether these are dimensions of so many, each behind the one told ahead of it.
func rises(at []int, rank int) bool {
	ahead := -1
	for _, k := range at {
		if k <= ahead || k >= rank {
			return false
		}
		ahead = k
	}
	return true
}

// permutes tells whether these are all dimensions of so many, each once.
func permutes(perm []int, rank int) bool {
	if len(perm) != rank {
		return false
	}
	var seen [api.MaxRank]bool
	for _, k := range perm {
		if k < 0 || k >= rank || seen[k] {
			return false
		}
		seen[k] = true
	}
	return true
}
