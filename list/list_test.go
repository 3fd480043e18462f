package list_test

import (
	"slices"
	"testing"

	"adjoint/list"
)

func TestFresh(t *testing.T) {
	for _, some := range [][]int{nil, {}, {7}, {1, 2, 3}} {
		got := list.Fresh(some)
		if !slices.Equal(got, some) || cap(got) != len(some) {
			t.Errorf("%v comes of %v", got, some)
		}
		for k := range got {
			got[k] = -1
		}
		if slices.Contains(some, -1) {
			t.Errorf("it shares memory with %v", some)
		}
	}
}

func TestEach(t *testing.T) {
	length := func(s string) int { return len(s) }
	if got := list.Each([]string{"a", "", "abc"}, length); !slices.Equal(got, []int{1, 0, 3}) {
		t.Errorf("%v comes", got)
	}
	if got := list.Each(nil, length); len(got) != 0 {
		t.Errorf("%v comes", got)
	}
}

func TestThese(t *testing.T) {
	all := []string{"a", "b", "c"}
	if got := list.These(all, []int{2, 0, 2}); !slices.Equal(got, []string{"c", "a", "c"}) {
		t.Errorf("%v comes", got)
	}
	if got := list.These(all, nil); len(got) != 0 {
		t.Errorf("%v comes", got)
	}
}

func TestOthers(t *testing.T) {
	for _, c := range []struct {
		many  int
		lists [][]int
		want  []int
	}{
		{0, nil, nil}, {1, nil, []int{0}}, {3, nil, []int{0, 1, 2}}, {3, [][]int{nil, {}}, []int{0, 1, 2}},
		{4, [][]int{{2}}, []int{0, 1, 3}}, {4, [][]int{{3, 0}}, []int{1, 2}}, {5, [][]int{{1}, {4, 1}}, []int{0, 2, 3}}, {2, [][]int{{1}, {0}}, nil}, {2, [][]int{{2, -1, 7}}, []int{0, 1}},
	} {
		if got := list.Others(c.many, c.lists...); !slices.Equal(got, c.want) {
			t.Errorf("%v comes of %d and %v, not %v", got, c.many, c.lists, c.want)
		}
	}
}
