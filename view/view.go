// Package view tells where the entries of an array lie, however it is looked at: see doc/01-view.md.
package view

import (
	"slices"

	"adjoint/api"
)

// Size is how many entries an array of these dimensions has.
func Size(dims []int) (int, api.Errno) {
	if len(dims) > api.MaxRank {
		return 0, api.ErrRank
	}
	if slices.ContainsFunc(dims, func(dim int) bool { return dim < 0 || dim > api.MaxDim }) {
		return 0, api.ErrRange
	}
	// One 0 makes it 0, however much the others alone would be.
	if slices.Contains(dims, 0) {
		return 0, api.OK
	}
	size := 1
	for _, dim := range dims {
		size *= dim
		// Told at once: the whole product may be beyond 64 bits.
		if size > api.MaxSize {
			return 0, api.ErrMuch
		}
	}
	return size, api.OK
}

// Place is where the entry at an index lies in an array.
func Place(dims, at []int) (int, api.Errno) {
	if _, err := Size(dims); err != api.OK {
		return 0, err
	}
	if len(at) != len(dims) {
		return 0, api.ErrShape
	}
	for k, dim := range dims {
		if at[k] < 0 || at[k] >= dim {
			return 0, api.ErrRange
		}
	}
	place := 0
	for k, behind := range lastFirst(dims) {
		place += at[k] * behind
	}
	return place, api.OK
}

// Index is the index of the entry that lies at a place.
func Index(dims []int, place int) ([]int, api.Errno) {
	size, err := Size(dims)
	if err != api.OK {
		return nil, err
	}
	if place < 0 || place >= size {
		return nil, api.ErrRange
	}
	at := make([]int, len(dims))
	for k, behind := range lastFirst(dims) {
		at[k] = place / behind % dims[k]
	}
	return at, api.OK
}

// Wrong is what is wrong with a view.
func Wrong(v api.View) api.Errno {
	if _, err := Size(v.Dims); err != api.OK {
		return err
	}
	if len(v.Steps) != len(v.Dims) {
		return api.ErrShape
	}
	if beyond(v) {
		return api.ErrRange
	}
	return api.OK
}

// Whole is an array as it lies.
func Whole(dims []int) (api.View, api.Errno) {
	size, err := Size(dims)
	if err != api.OK {
		return api.View{}, err
	}
	v := blank(0, dims)
	if size == 0 {
		return v, api.OK
	}
	for k, behind := range lastFirst(dims) {
		v.Steps[k] = behind
	}
	return v, api.OK
}

// Reads is where the entries lie, one behind the other.
func Reads(v api.View) ([]int, api.Errno) {
	if err := Wrong(v); err != api.OK {
		return nil, err
	}
	size, _ := Size(v.Dims)
	if size == 0 {
		return nil, api.OK
	}
	reads := make([]int, 1, size)
	reads[0] = v.Start
	// Each dimension repeats what those behind it read, a step further each time.
	for k, behind := range lastFirst(v.Dims) {
		for i := 1; i < v.Dims[k]; i++ {
			for _, place := range reads[:behind] {
				reads = append(reads, place+i*v.Steps[k])
			}
		}
	}
	return reads, api.OK
}
