package list_test

import (
	"slices"
	"testing"

	"adjoint/list"
)

func TestFresh(t *testing.T) {
	for _, some := range [][]int{nil, {}, {7}, {1, 2, 3}} {
		got := list.Fresh(some)
		if !slices.Equal(got, some) || cap(got) != len(some) {
			t.Errorf("%v comes of %v", got, some)
		}
		for k := range got {
			got[k] = -1
		}
		if slices.Contains(some, -1) {
			t.Errorf("it shares memory with %v", some)
		}
	}
}

func TestEach(t *testing.T) {
	length := func(s string) int { return len(s) }
	if got := list.Each([]string{"a", "", "abc"}, length); !slices.Equal(got, []int{1, 0, 3}) {
		t.Errorf("%v comes", got)
	}
	if got := list.Each(nil, length); len(got) != 0 {
		t.Errorf("%v comes", got)
	}
}

func TestThese(t *testing.T) {
	all := []string{"a", "b", "c"}
	if got := list.These(all, []int{2, 0, 2}); !slices.Equal(got, []string{"c", "a", "c"}) {
		t.Errorf("%v comes", got)
	}
	if got := list.These(all, nil); len(got) != 0 {
		t.Errorf("%v comes", got)
	}
}
