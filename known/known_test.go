package known_test

import (
	"testing"

	"adjoint/api"
	"adjoint/known"
)

// Each of these is another one than all others: a number more, a number elsewhere, two that read like one.
func TestKey(t *testing.T) {
	all := []api.Node{
		{},
		{Op: api.Op{Kind: 1}}, {Op: api.Op{Kind: 12}}, {Op: api.Op{Kind: -1}}, {Op: api.Op{Value: 1}}, {Op: api.Op{Value: -1 << 63}},
		{Op: api.Op{Dims: []int{1}}}, {Op: api.Op{At: []int{1}}}, {Op: api.Op{Lo: []int{1}}}, {Op: api.Op{Hi: []int{1}}}, {Op: api.Op{Step: []int{1}}}, {Args: []int{1}},
		{Op: api.Op{Dims: []int{1, 2}}}, {Op: api.Op{Dims: []int{12}}}, {Op: api.Op{Dims: []int{2, 1}}}, {Op: api.Op{Dims: []int{0}}}, {Op: api.Op{Dims: []int{0, 0}}},
		{Op: api.Op{Dims: []int{1}, At: []int{2}}}, {Op: api.Op{Dims: []int{2}, At: []int{1}}}, {Op: api.Op{At: []int{1, 2}}},
		{Op: api.Op{Step: []int{1}}, Args: []int{2}}, {Op: api.Op{Step: []int{1, 2}}}, {Args: []int{1, 2}}, {Args: []int{1, -2}}, {Args: []int{12}},
	}
	seen := map[string]int{}
	for k, node := range all {
		key := known.Key(node.Op, node.Args)
		if other, ok := seen[key]; ok {
			t.Errorf("%v and %v have one key", all[other], node)
		}
		seen[key] = k
		if again := known.Key(node.Op, node.Args); again != key {
			t.Errorf("%v has two keys: %s, %s", node, key, again)
		}
	}
	none := []int{}
	if known.Key(api.Op{}, nil) != known.Key(api.Op{Dims: none, At: none, Lo: none, Hi: none, Step: none}, none) {
		t.Error("nil and empty have two keys")
	}
}
