package text

import (
	"strconv"
	"strings"

	"adjoint/api"
)

// writer writes down what can be written; if it is too much, that is thrown.
type writer struct{ out *strings.Builder }

func (w *writer) put(parts ...string) {
	for _, part := range parts {
		if len(part) > api.MaxText-w.out.Len() {
			panic(api.ErrMuch)
		}
		w.out.WriteString(part)
	}
}

func (w *writer) number(n int64) { w.put(strconv.FormatInt(n, 10)) }

// parted writes so many things, with the same between each two of them.
func (w *writer) parted(many int, between string, one func(i int)) {
	for i := range many {
		if i > 0 {
			w.put(between)
		}
		one(i)
	}
}

func (w *writer) program(p []api.Func) {
	for i := range p {
		w.function(&p[i])
	}
}

func (w *writer) function(f *api.Func) {
	w.put("fn ", f.Name, "(")
	w.parted(len(f.Given), ", ", func(i int) {
		w.put(f.Given[i].Name, ": ")
		w.shape(f.Given[i].Dims)
	})
	w.put(") = ")
	w.expr(&f.Body, 1)
	w.put(";\n")
}

func (w *writer) shape(dims []api.Dim) {
	w.put("[")
	w.parted(len(dims), " ", func(i int) {
		if dims[i].Name != "" {
			w.put(dims[i].Name)
		} else {
			w.number(int64(dims[i].Size))
		}
	})
	w.put("]")
}

func (w *writer) list(list []int) {
	w.put("{")
	w.parted(len(list), " ", func(i int) { w.number(int64(list[i])) })
	w.put("}")
}

// expr writes an expr on a level.
func (w *writer) expr(t *api.Tree, level int) {
	if level > api.MaxNest {
		panic(api.ErrMuch)
	}
	w.tree(t, level)
}

// tree writes a tree as part of the expr on a level.
func (w *writer) tree(t *api.Tree, level int) {
	switch t.Kind {
	case api.TreeNumber:
		w.number(t.Number)
	case api.TreeName:
		w.put(t.Name)
	case api.TreeCall:
		w.call(t, level)
	case api.TreeTwo:
		w.two(t, level, 1)
	case api.TreeLet:
		w.put("let ")
		w.named(t, " in ", level)
	case api.TreeRepeat:
		w.put("repeat ")
		w.number(t.Number)
		w.put(" ")
		w.named(t, " with ", level)
	}
}

func (w *writer) call(t *api.Tree, level int) {
	w.put(t.Name)
	if t.Shaped {
		w.shape(t.Shape)
	}
	for _, list := range t.Lists {
		w.list(list)
	}
	w.put("(")
	w.parted(len(t.Kids), ", ", func(i int) { w.expr(&t.Kids[i], level+1) })
	w.put(")")
}

// named writes a let or a repeat from its name on.
func (w *writer) named(t *api.Tree, between string, level int) {
	w.put(t.Name, " = ")
	w.expr(&t.Kids[0], level+1)
	w.put(between)
	w.expr(&t.Kids[1], level+1)
}

// two writes a sum or a product; from its last sign on there are so many in what it is the beginning of.
func (w *writer) two(t *api.Tree, level, signs int) {
	if signs > maxSigns {
		panic(api.ErrMuch)
	}
	left, right := &t.Kids[0], &t.Kids[1]
	if hold(left) == hold(t) {
		w.two(left, level, signs+1)
	} else {
		w.operand(left, level, hold(t))
	}
	w.put(" ", t.Name, " ")
	w.operand(right, level, hold(t)+1)
}

// operand writes a tree at a sign: in brackets, if it holds together less than it must there.
func (w *writer) operand(t *api.Tree, level, least int) {
	if hold(t) >= least {
		w.tree(t, level)
		return
	}
	w.put("(")
	w.expr(t, level+1)
	w.put(")")
}

// hold is how strongly a tree holds together without brackets.
func hold(t *api.Tree) int {
	switch t.Kind {
	case api.TreeLet, api.TreeRepeat:
		return 0
	case api.TreeTwo:
		if isSum(t.Name) {
			return 1
		}
		return 2
	}
	return 3
}
