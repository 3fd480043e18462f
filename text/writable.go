package text

import "adjoint/api"

// writable tells whether all in a program can be written.
func writable(p []api.Func) bool {
	for i := range p {
		if !isName(p[i].Name) || !allGiven(p[i].Given) || !allTrees(&p[i].Body) {
			return false
		}
	}
	return true
}

func allGiven(given []api.Given) bool {
	for _, g := range given {
		if !isName(g.Name) || !allDims(g.Dims) {
			return false
		}
	}
	return true
}

func allDims(dims []api.Dim) bool {
	for _, d := range dims {
		if d.Size < 0 || d.Name != "" && (d.Size > 0 || !isName(d.Name)) {
			return false
		}
	}
	return true
}

func allLists(lists [][]int) bool {
	for _, list := range lists {
		for _, n := range list {
			if n < 0 {
				return false
			}
		}
	}
	return true
}

// allTrees looks at a tree and all within it. Those that are still to be looked at are kept in a list, as a tree that is handed in may be far deeper than one that is read; and each is looked at once, as lists of kids may be shared, so that a few trees can stand for more than could ever be gone through.
func allTrees(body *api.Tree) bool {
	left := []*api.Tree{body}
	seen := map[*api.Tree]struct{}{body: {}}
	for len(left) > 0 {
		t := left[len(left)-1]
		left = left[:len(left)-1]
		if !oneTree(t) {
			return false
		}
		for i := range t.Kids {
			kid := &t.Kids[i]
			if _, been := seen[kid]; !been {
				seen[kid] = struct{}{}
				left = append(left, kid)
			}
		}
	}
	return true
}

// oneTree looks at a tree without what is within its kids.
func oneTree(t *api.Tree) bool {
	switch t.Kind {
	case api.TreeNumber:
		return t.Name == "" && t.Number >= 0 && isBare(t) && len(t.Kids) == 0
	case api.TreeName:
		return isName(t.Name) && t.Number == 0 && isBare(t) && len(t.Kids) == 0
	case api.TreeCall:
		return isName(t.Name) && t.Number == 0 && (t.Shaped || len(t.Shape) == 0) && allDims(t.Shape) && allLists(t.Lists)
	case api.TreeTwo:
		return (isSum(t.Name) || isProduct(t.Name)) && t.Number == 0 && isBare(t) && len(t.Kids) == 2
	case api.TreeLet:
		return isName(t.Name) && t.Number == 0 && isBare(t) && len(t.Kids) == 2
	case api.TreeRepeat:
		return isName(t.Name) && t.Number >= 0 && isBare(t) && len(t.Kids) == 2
	}
	return false
}

// isBare tells whether a tree has nothing of what calls alone have.
func isBare(t *api.Tree) bool { return !t.Shaped && len(t.Shape) == 0 && len(t.Lists) == 0 }
