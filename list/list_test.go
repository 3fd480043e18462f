package list_test

import (
	"math"
	"slices"
	"testing"

	"adjoint/list"
)

func TestFresh(t *testing.T) {
	for _, some := range [][]int{nil, {}, {7}, {1, 2, 3}} {
		got := list.Fresh(some)
		if !slices.Equal(got, some) || cap(got) != len(some) {
			t.Errorf("%v comes of %v", got, some)
		}
		for k := range got {
			got[k] = -1
		}
		if slices.Contains(some, -1) {
			t.Errorf("it shares memory with %v", some)
		}
	}
}

func TestEach(t *testing.T) {
	length := func(s string) int { return len(s) }
	if got := list.Each([]string{"a", "", "abc"}, length); !slices.Equal(got, []int{1, 0, 3}) {
		t.Errorf("%v comes", got)
	}
	if got := list.Each(nil, length); len(got) != 0 {
		t.Errorf("%v comes", got)
	}
}

func TestThese(t *testing.T) {
	all := []string{"a", "b", "c"}
	if got := list.These(all, []int{2, 0, 2}); !slices.Equal(got, []string{"c", "a", "c"}) {
		t.Errorf("%v comes", got)
	}
	if got := list.These(all, nil); len(got) != 0 {
		t.Errorf("%v comes", got)
	}
}

func TestOthers(t *testing.T) {
	for _, c := range []struct {
		many  int
		lists [][]int
		want  []int
	}{
		{0, nil, nil}, {1, nil, []int{0}}, {3, nil, []int{0, 1, 2}}, {3, [][]int{nil, {}}, []int{0, 1, 2}},
		{4, [][]int{{2}}, []int{0, 1, 3}}, {4, [][]int{{3, 0}}, []int{1, 2}}, {5, [][]int{{1}, {4, 1}}, []int{0, 2, 3}}, {2, [][]int{{1}, {0}}, nil}, {2, [][]int{{2, -1, 7}}, []int{0, 1}},
	} {
		if got := list.Others(c.many, c.lists...); !slices.Equal(got, c.want) {
			t.Errorf("%v comes of %d and %v, not %v", got, c.many, c.lists, c.want)
		}
	}
}

func TestPieces(t *testing.T) {
	for _, c := range []struct {
		list []int
		many int
		want [][]int
	}{
		{nil, 1, [][]int{{}}}, {nil, 3, [][]int{{}, {}, {}}}, {[]int{7}, 1, [][]int{{7}}}, {[]int{7}, 3, [][]int{{}, {}, {7}}},
		{[]int{1, 2, 3, 4}, 2, [][]int{{1, 2}, {3, 4}}}, {[]int{1, 2, 3, 4, 5}, 2, [][]int{{1, 2}, {3, 4, 5}}}, {[]int{1, 2, 3, 4, 5}, 3, [][]int{{1}, {2, 3}, {4, 5}}},
		{[]int{1, 2, 3}, 4, [][]int{{}, {1}, {2}, {3}}}, {[]int{1, 2}, 5, [][]int{{}, {}, {1}, {}, {2}}},
	} {
		if got := list.Pieces(c.list, c.many); !slices.EqualFunc(got, c.want, slices.Equal) {
			t.Errorf("%v comes of %v and %d, not %v", got, c.list, c.many, c.want)
		}
	}
}

func TestPicker(t *testing.T) {
	for _, c := range []struct{ picks, many, want []int }{
		{nil, []int{3, 2, 1}, []int{0, 0, 0}}, {[]int{}, []int{1, 7}, []int{0, 0}},
		{[]int{2}, []int{3, 2, 1, 5}, []int{2, 0, 0, 2}}, {[]int{1, 4}, []int{3, 3, 3, 2, 2}, []int{1, 1, 1, 0, 1}},
		{[]int{-1, math.MaxInt, math.MinInt}, []int{3, 4, 3, 5, 1}, []int{2, 3, 1, 4, 0}}, {[]int{1, 2, 3}, []int{9}, []int{1}},
	} {
		pick := list.Picker(c.picks)
		if got := list.Each(c.many, pick); !slices.Equal(got, c.want) {
			t.Errorf("%v comes of %v and %v, not %v", got, c.picks, c.many, c.want)
		}
	}
}
