package text

import (
	"strconv"

	"adjoint/api"
)

// reader goes through tokens, from the first one on; at the first one that fits nowhere a fault is thrown.
type reader struct {
	tokens []api.Token
	at     int
}

// next is the token that is to be read.
func (r *reader) next() api.Token { return r.tokens[r.at] }

// is tells whether this token is next.
func (r *reader) is(token string) bool { return r.next().Text == token }

// may reads this token, if it is next.
func (r *reader) may(token string) bool {
	if !r.is(token) {
		return false
	}
	r.at++
	return true
}

// must reads this token.
func (r *reader) must(token string) {
	if !r.may(token) {
		r.wrong(api.ErrForm)
	}
}

// wrong throws a fault at the next token.
func (r *reader) wrong(err api.Errno) { panic(api.Fault{Err: err, At: r.next().At}) }

// take reads the next token, which must be such.
func (r *reader) take(such func(token string) bool) string {
	token := r.next().Text
	if !such(token) {
		r.wrong(api.ErrForm)
	}
	r.at++
	return token
}

func (r *reader) name() string { return r.take(isName) }

func (r *reader) number() int64 {
	// That a number is one that there can be was seen when the text was taken apart.
	n, _ := strconv.ParseInt(r.take(isNumber), 10, 64)
	return n
}

// bracketed reads what stands in round brackets, any number of times, with commas between.
func (r *reader) bracketed(one func()) {
	r.must("(")
	if r.may(")") {
		return
	}
	one()
	for r.may(",") {
		one()
	}
	r.must(")")
}

func (r *reader) program() []api.Func {
	var out []api.Func
	for r.at < len(r.tokens)-1 {
		out = append(out, r.function())
	}
	return out
}

func (r *reader) function() api.Func {
	r.must("fn")
	f := api.Func{Name: r.name()}
	r.bracketed(func() { f.Given = append(f.Given, r.given()) })
	r.must("=")
	f.Body = r.expr(1)
	r.must(";")
	return f
}

func (r *reader) given() api.Given {
	name := r.name()
	r.must(":")
	return api.Given{Name: name, Dims: r.shape()}
}

func (r *reader) shape() []api.Dim {
	var dims []api.Dim
	r.must("[")
	for !r.may("]") {
		if isNumber(r.next().Text) {
			dims = append(dims, api.Dim{Size: int(r.number())})
		} else {
			dims = append(dims, api.Dim{Name: r.name()})
		}
	}
	return dims
}

func (r *reader) list() []int {
	var list []int
	r.must("{")
	for !r.may("}") {
		list = append(list, int(r.number()))
	}
	return list
}

// expr reads an expr on a level.
func (r *reader) expr(level int) api.Tree {
	if level > api.MaxNest {
		r.wrong(api.ErrMuch)
	}
	switch {
	case r.may("let"):
		return r.named(api.Tree{Kind: api.TreeLet}, "in", level)
	case r.may("repeat"):
		return r.named(api.Tree{Kind: api.TreeRepeat, Number: r.number()}, "with", level)
	}
	return r.sum(level)
}

// named reads the rest of a let or a repeat, from its name on; a word stands between its kids.
func (r *reader) named(t api.Tree, between string, level int) api.Tree {
	t.Name = r.name()
	r.must("=")
	first := r.expr(level + 1)
	r.must(between)
	t.Kids = []api.Tree{first, r.expr(level + 1)}
	return t
}

func (r *reader) sum(level int) api.Tree {
	return r.chain(isSum, func() api.Tree { return r.product(level) })
}

func (r *reader) product(level int) api.Tree {
	return r.chain(isProduct, func() api.Tree { return r.factor(level) })
}

// chain reads parts with signs between them, from the left on.
func (r *reader) chain(isSign func(token string) bool, part func() api.Tree) api.Tree {
	tree := part()
	for many := 0; isSign(r.next().Text); many++ {
		if many == maxSigns {
			r.wrong(api.ErrMuch)
		}
		sign := r.take(isSign)
		tree = api.Tree{Kind: api.TreeTwo, Name: sign, Kids: []api.Tree{tree, part()}}
	}
	return tree
}

func (r *reader) factor(level int) api.Tree {
	if r.may("(") {
		inner := r.expr(level + 1)
		r.must(")")
		return inner
	}
	if isNumber(r.next().Text) {
		return api.Tree{Kind: api.TreeNumber, Number: r.number()}
	}
	name := r.name()
	if r.is("[") || r.is("{") || r.is("(") {
		return r.call(name, level)
	}
	return api.Tree{Kind: api.TreeName, Name: name}
}

// call reads the rest of a call, from behind its name on.
func (r *reader) call(name string, level int) api.Tree {
	t := api.Tree{Kind: api.TreeCall, Name: name, Shaped: r.is("[")}
	if t.Shaped {
		t.Shape = r.shape()
	}
	for r.is("{") {
		t.Lists = append(t.Lists, r.list())
	}
	r.bracketed(func() { t.Kids = append(t.Kids, r.expr(level+1)) })
	return t
}

// isSum tells whether a token is a sign of a sum.
func isSum(token string) bool { return token == "+" || token == "-" }

// isProduct tells whether a token is the sign of a product.
func isProduct(token string) bool { return token == "*" }
