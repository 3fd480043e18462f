package view_test

import (
	"math"
	"slices"
	"testing"

	"adjoint/api"
	"adjoint/view"
)

const (
	reach = api.MaxReach
	most  = math.MaxInt
	least = math.MinInt
)

// of is a view.
func of(start int, dims, steps []int) api.View {
	return api.View{Start: start, Dims: dims, Steps: steps}
}

// l is a list.
func l(numbers ...int) []int { return numbers }

// ones are so many times 1.
func ones(many int) []int { return slices.Repeat(l(1), many) }

// sameView tells whether two views are alike (nil and empty are the same).
func sameView(a, b api.View) bool {
	return a.Start == b.Start && slices.Equal(a.Dims, b.Dims) && slices.Equal(a.Steps, b.Steps)
}

// wantView: this view comes, or this error and nothing else.
func wantView(t *testing.T, what string, got api.View, err api.Errno, want api.View, wantErr api.Errno) {
	t.Helper()
	if err != wantErr || !sameView(got, want) {
		t.Errorf("%s: %v, %d comes, not %v, %d", what, got, err, want, wantErr)
	}
}

// wantList: this list comes, or this error and nothing else.
func wantList(t *testing.T, what string, got []int, err api.Errno, want []int, wantErr api.Errno) {
	t.Helper()
	if err != wantErr || !slices.Equal(got, want) {
		t.Errorf("%s: %v, %d comes, not %v, %d", what, got, err, want, wantErr)
	}
}

// wantNumber: this number comes, or this error and nothing else.
func wantNumber(t *testing.T, what string, got int, err api.Errno, want int, wantErr api.Errno) {
	t.Helper()
	if err != wantErr || got != want {
		t.Errorf("%s: %d, %d comes, not %d, %d", what, got, err, want, wantErr)
	}
}

// indices are all indices of dimensions, in the order of lists, made without the package.
func indices(dims []int) [][]int {
	all := [][]int{{}}
	for _, dim := range dims {
		var longer [][]int
		for _, at := range all {
			for i := range dim {
				longer = append(longer, append(slices.Clone(at), i))
			}
		}
		all = longer
	}
	return all
}

// lies is where an entry of a view lies, by the words of V3.
func lies(v api.View, at []int) int {
	place := v.Start
	for k, i := range at {
		place += i * v.Steps[k]
	}
	return place
}

// reads are where all entries lie, by the words of V3.
func reads(v api.View) []int {
	var all []int
	for _, at := range indices(v.Dims) {
		all = append(all, lies(v, at))
	}
	return all
}

// lists are all lists of so many of these numbers.
func lists(many int, numbers ...int) [][]int {
	var all [][]int
	for _, at := range indices(slices.Repeat(l(len(numbers)), many)) {
		for k, i := range at {
			at[k] = numbers[i]
		}
		all = append(all, at)
	}
	return all
}

// badViews are views of which something is wrong, and what.
func badViews() map[api.Errno]api.View {
	return map[api.Errno]api.View{
		api.ErrRank:  of(0, ones(7), ones(7)),
		api.ErrMuch:  of(0, l(4096, 17), l(1, 1)),
		api.ErrShape: of(0, l(2, 3), l(1)),
		api.ErrRange: of(reach+1, l(2, 3), l(1, 1)),
	}
}

// changes are the calls that make a view of a view, with arguments that fit views with the dimensions 2, 3.
func changes() map[string]func(api.View) (api.View, api.Errno) {
	return map[string]func(api.View) (api.View, api.Errno){
		"Turn":   func(v api.View) (api.View, api.Errno) { return view.Turn(v, l(1, 0)) },
		"Flip":   func(v api.View) (api.View, api.Errno) { return view.Flip(v, l(0, 1)) },
		"Cut":    func(v api.View) (api.View, api.Errno) { return view.Cut(v, l(0, 0), l(2, 3), l(1, 2)) },
		"Spread": func(v api.View) (api.View, api.Errno) { return view.Spread(v, l(2, 4, 3), l(0, 2)) },
		"Reform": func(v api.View) (api.View, api.Errno) { return view.Reform(v, l(2, 1, 3)) },
	}
}

// wrongChanges are the same calls with arguments that fit no view.
func wrongChanges() map[string]func(api.View) (api.View, api.Errno) {
	return map[string]func(api.View) (api.View, api.Errno){
		"Turn":       func(v api.View) (api.View, api.Errno) { return view.Turn(v, l(9)) },
		"Flip":       func(v api.View) (api.View, api.Errno) { return view.Flip(v, l(9)) },
		"Cut":        func(v api.View) (api.View, api.Errno) { return view.Cut(v, l(-1), nil, nil) },
		"Spread":     func(v api.View) (api.View, api.Errno) { return view.Spread(v, l(-1), l(9)) },
		"Spread far": func(v api.View) (api.View, api.Errno) { return view.Spread(v, ones(9), nil) },
		"Reform":     func(v api.View) (api.View, api.Errno) { return view.Reform(v, l(-1)) },
		"Reform far": func(v api.View) (api.View, api.Errno) { return view.Reform(v, ones(9)) },
	}
}
