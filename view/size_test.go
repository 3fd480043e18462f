package view_test

import (
	"fmt"
	"slices"
	"testing"

	"adjoint/api"
	"adjoint/view"
)

// sizes are dimensions, and what Size says of them.
var sizes = []struct {
	dims []int
	size int
	err  api.Errno
}{
	{nil, 1, api.OK},
	{l(), 1, api.OK},
	{l(0), 0, api.OK},
	{l(1), 1, api.OK},
	{l(7), 7, api.OK},
	{l(4095), 4095, api.OK},
	{l(4096), 4096, api.OK},
	{l(2, 3), 6, api.OK},
	{l(5, 1, 2, 1, 3, 2), 60, api.OK},
	{ones(6), 1, api.OK},
	{l(4, 0, 7), 0, api.OK},
	{l(0, 0, 0, 0, 0, 0), 0, api.OK},
	{l(4096, 16), 65536, api.OK},
	{l(256, 256), 65536, api.OK},
	{l(255, 257), 65535, api.OK},
	{l(1, 4096, 1, 16, 1, 1), 65536, api.OK},
	{l(0, 4096, 4096, 4096, 4096, 4096), 0, api.OK},
	{l(4096, 4096, 4096, 4096, 4096, 0), 0, api.OK},
	{l(4096, 4096, 0, 4096), 0, api.OK},
	{ones(7), 0, api.ErrRank},
	{slices.Repeat(l(0), 7), 0, api.ErrRank},
	{ones(1000), 0, api.ErrRank},
	{l(-1), 0, api.ErrRange},
	{l(4097), 0, api.ErrRange},
	{l(most), 0, api.ErrRange},
	{l(least), 0, api.ErrRange},
	{l(2, 3, -1), 0, api.ErrRange},
	{l(0, -1), 0, api.ErrRange},
	{l(-1, -1), 0, api.ErrRange},
	{l(0, 4097), 0, api.ErrRange},
	{l(4097, 0), 0, api.ErrRange},
	{l(65536), 0, api.ErrRange},
	{l(4096, 17), 0, api.ErrMuch},
	{l(17, 4096), 0, api.ErrMuch},
	{l(256, 257), 0, api.ErrMuch},
	{l(4096, 4096), 0, api.ErrMuch},
	{l(3, 4096, 4096, 1), 0, api.ErrMuch},
	// Products that are 2^64, 2^64 + 2^60 and 2^72: at 64 bits they would look small.
	{l(4096, 4096, 4096, 4096, 4096, 16), 0, api.ErrMuch},
	{l(16, 4096, 4096, 4096, 4096, 4096), 0, api.ErrMuch},
	{l(4096, 4096, 4096, 4096, 4096, 17), 0, api.ErrMuch},
	{slices.Repeat(l(4096), 6), 0, api.ErrMuch},
	// Several errors: the rank, then a number, then the product.
	{l(-1, 1, 1, 1, 1, 1, 1), 0, api.ErrRank},
	{slices.Repeat(l(4096), 7), 0, api.ErrRank},
	{l(4096, 4096, -1), 0, api.ErrRange},
	{l(4096, 4096, 4096, 4097), 0, api.ErrRange},
}

func TestV1Size(t *testing.T) {
	for _, c := range sizes {
		got, err := view.Size(c.dims)
		wantNumber(t, fmt.Sprint("Size", c.dims), got, err, c.size, c.err)
	}
}

// All that takes dimensions tells first what Size says of them, whatever else is wrong.
func TestSizeIsToldFirst(t *testing.T) {
	for _, c := range sizes {
		if c.err == api.OK {
			continue
		}
		what := fmt.Sprint(c.dims)
		place, err := view.Place(c.dims, l(-1, 9))
		wantNumber(t, "Place "+what, place, err, 0, c.err)
		at, err := view.Index(c.dims, -1)
		wantList(t, "Index "+what, at, err, nil, c.err)
		v, err := view.Whole(c.dims)
		wantView(t, "Whole "+what, v, err, api.View{}, c.err)
		bad := of(reach+1, c.dims, l(reach+1))
		if err := view.Wrong(bad); err != c.err {
			t.Errorf("Wrong %s: %d", what, err)
		}
		places, err := view.Reads(bad)
		wantList(t, "Reads "+what, places, err, nil, c.err)
		right := of(0, l(2), l(1))
		v, err = view.Spread(right, c.dims, l(9, 9))
		wantView(t, "Spread "+what, v, err, api.View{}, c.err)
		v, err = view.Reform(right, c.dims)
		wantView(t, "Reform "+what, v, err, api.View{}, c.err)
	}
}

func TestV2PlaceAndIndexOfAll(t *testing.T) {
	dims := append(lists(3, 0, 1, 2, 3), nil, l(5), l(4, 3), l(2, 1, 3, 1, 2, 2), l(4096), l(16, 64), l(2, 4096), l(4096, 2))
	for _, d := range dims {
		for n, at := range indices(d) {
			what := fmt.Sprint(d, at)
			place, err := view.Place(d, at)
			wantNumber(t, "Place "+what, place, err, n, api.OK)
			back, err := view.Index(d, n)
			wantList(t, "Index "+what, back, err, at, api.OK)
		}
	}
}

func TestV2AtTheEnds(t *testing.T) {
	for _, c := range []struct {
		dims, at []int
		place    int
	}{
		{nil, nil, 0},
		{ones(6), slices.Repeat(l(0), 6), 0},
		{l(4096), l(4095), 4095},
		{l(4096, 16), l(4095, 15), 65535},
		{l(16, 4096), l(15, 0), 61440},
		{l(16, 1, 4096), l(1, 0, 1), 4097},
	} {
		what := fmt.Sprint(c.dims, c.at)
		place, err := view.Place(c.dims, c.at)
		wantNumber(t, "Place "+what, place, err, c.place, api.OK)
		at, err := view.Index(c.dims, c.place)
		wantList(t, "Index "+what, at, err, c.at, api.OK)
	}
}

func TestV2WrongPlaces(t *testing.T) {
	for _, c := range []struct {
		dims, at []int
		err      api.Errno
	}{
		{nil, l(0), api.ErrShape},
		{l(1), nil, api.ErrShape},
		{l(2, 3), l(1), api.ErrShape},
		{l(2, 3), l(1, 2, 0), api.ErrShape},
		{l(0), nil, api.ErrShape},
		{l(2, 3), l(2, 0), api.ErrRange},
		{l(2, 3), l(0, 3), api.ErrRange},
		{l(2, 3), l(-1, 0), api.ErrRange},
		{l(2, 3), l(0, -1), api.ErrRange},
		{l(2, 3), l(1, most), api.ErrRange},
		{l(2, 3), l(least, 0), api.ErrRange},
		{l(0), l(0), api.ErrRange},
		{l(3, 0), l(0, 0), api.ErrRange},
		{l(4096), l(4096), api.ErrRange},
		// Of both: the shape.
		{l(2, 3), l(-1), api.ErrShape},
		{l(0), l(0, 0), api.ErrShape},
	} {
		place, err := view.Place(c.dims, c.at)
		wantNumber(t, fmt.Sprint("Place", c.dims, c.at), place, err, 0, c.err)
	}
}

func TestV2WrongIndices(t *testing.T) {
	for _, c := range []struct {
		dims  []int
		place int
	}{
		{nil, 1}, {nil, -1}, {l(1), 1}, {l(2, 3), 6}, {l(2, 3), -1}, {l(2, 3), most}, {l(2, 3), least},
		{l(0), 0}, {l(0, 9), 0}, {l(9, 0), 0}, {l(0), -1}, {l(4096, 16), 65536},
	} {
		at, err := view.Index(c.dims, c.place)
		wantList(t, fmt.Sprint("Index", c.dims, c.place), at, err, nil, api.ErrRange)
	}
}
