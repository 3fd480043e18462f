package text_test

import (
	"slices"
	"strings"
	"testing"

	"adjoint/api"
	"adjoint/text"
)

// The grammar of P2, by its words: each line a rule and one of its forms. Lists are named by what they are of: given* means any number, given+ one or more with commas between.
const grammar = `
program =
program = program function
function = fn NAME ( given* ) EQUALS expr ;
given* =
given* = given+
given+ = given
given+ = given+ , given
given = NAME : shape
shape = [ dim* ]
dim* =
dim* = dim* NAME
dim* = dim* NUMBER
expr = let NAME EQUALS expr in expr
expr = repeat NUMBER NAME EQUALS expr with expr
expr = sum
sum = product
sum = sum + product
sum = sum - product
product = factor
product = product * factor
factor = NUMBER
factor = ( expr )
factor = NAME
factor = call
call = NAME shape? list* ( expr* )
shape? =
shape? = shape
list* =
list* = list* list
list = { number* }
number* =
number* = number* NUMBER
expr* =
expr* = expr+
expr+ = expr
expr+ = expr+ , expr
`

// rule is a line of the grammar.
type rule struct {
	of   string
	form []string
}

func rules() []rule {
	var all []rule
	for _, line := range strings.Split(strings.TrimSpace(grammar), "\n") {
		words := strings.Fields(line)
		for i, w := range words {
			if w == "EQUALS" {
				words[i] = "="
			}
		}
		all = append(all, rule{words[0], words[2:]})
	}
	return all
}

// item is a rule of which some is read already, begun at a token.
type item struct{ rule, read, begun int }

// class is what the grammar calls a token.
func class(token string) string {
	switch {
	case strings.Contains(" fn let in repeat with ", " "+token+" "):
		return token
	case strings.Contains(letters, token[:1]):
		return "NAME"
	case strings.Contains(digits, token[:1]):
		return "NUMBER"
	}
	return token
}

// stop is the number of the first token with which no program can go on; so many as there are, if they end too early; -1, if they are a program. All ways to go on are followed at the same time (Earley).
func stop(tokens []string) int {
	all := rules()
	chart := make([][]item, len(tokens)+1)
	for at := range chart {
		set := chart[at]
		add := func(x item) {
			if !slices.Contains(set, x) {
				set = append(set, x)
			}
		}
		begin := func(of string) {
			for i, r := range all {
				if r.of == of {
					add(item{i, 0, at})
				}
			}
		}
		if at == 0 {
			begin("program")
		}
		for k := 0; k < len(set); k++ {
			x := set[k]
			form := all[x.rule].form
			if x.read < len(form) {
				begin(form[x.read])
				// What is empty has ended before: it is gone on with at once.
				for _, y := range set {
					if y.begun == at && y.read == len(all[y.rule].form) && all[y.rule].of == form[x.read] {
						add(item{x.rule, x.read + 1, x.begun})
					}
				}
				continue
			}
			from := chart[x.begun]
			if x.begun == at {
				from = set
			}
			for _, y := range from {
				if f := all[y.rule].form; y.read < len(f) && f[y.read] == all[x.rule].of {
					add(item{y.rule, y.read + 1, y.begun})
				}
			}
		}
		chart[at] = set
		if len(set) == 0 {
			return at - 1
		}
		if at == len(tokens) {
			break
		}
		for _, x := range set {
			if form := all[x.rule].form; x.read < len(form) && form[x.read] == class(tokens[at]) {
				chart[at+1] = append(chart[at+1], item{x.rule, x.read + 1, x.begun})
			}
		}
	}
	for _, x := range chart[len(tokens)] {
		if all[x.rule].of == "program" && x.begun == 0 && x.read == len(all[x.rule].form) {
			return -1
		}
	}
	return len(tokens)
}

// programs have all that the grammar has.
var programs = []string{
	"fn f ( x : [ n 4 ] , y : [ ] ) = let a = sum { 0 1 } ( x ) in repeat 3 b = a with b * ( b - y ) ;",
	"fn f ( ) = g [ 2 n ] { } { 1 } ( 1 - 2 + 3 * 4 , x ) ; fn g ( a : [ ] ) = ( a ) ;",
	"fn h ( ) = ( let x = h ( ) in x ) * ( repeat 0 y = 1 with y [ ] ( ) ) + z { 7 } ( f ( ( 2 ) ) , 1 ) ;",
}

// againstGrammar: Read finds the fault where the grammar does.
func againstGrammar(t *testing.T, tokens []string) {
	t.Helper()
	s := strings.Join(tokens, " ")
	want := api.Fault{}
	if at := stop(tokens); at >= 0 {
		want = api.Fault{Err: api.ErrForm, At: len(s)}
		if at < len(tokens) {
			want.At = len(strings.Join(tokens[:at], " ")) + min(at, 1)
		}
	}
	if got, f := text.Read(s); f != want || f.Err != api.OK && len(got) > 0 {
		t.Errorf("Read of %q: %d functions, %v comes, not %v", s, len(got), f, want)
	}
}

// kinds are one token of each kind.
var kinds = strings.Fields("fn let in repeat with n 5 ( ) [ ] { } , : = + - * ;")

// Each token of a program is left out, comes twice, is another one, or has another one ahead of it; or is the last one.
func TestP3WhereItStops(t *testing.T) {
	for _, s := range programs {
		tokens := strings.Fields(s)
		for i := range len(tokens) + 1 {
			againstGrammar(t, tokens[:i])
			for _, other := range kinds {
				againstGrammar(t, slices.Insert(slices.Clone(tokens), i, other))
				againstGrammar(t, append(slices.Clone(tokens[:i]), other))
				if i < len(tokens) {
					againstGrammar(t, slices.Replace(slices.Clone(tokens), i, i+1, other))
				}
			}
			if i < len(tokens) {
				againstGrammar(t, slices.Delete(slices.Clone(tokens), i, i+1))
			}
		}
	}
}

// All bodies of up to four tokens.
func TestP3ShortBodies(t *testing.T) {
	short := strings.Fields("let n 5 ( ) [ ] { } , = + * ;")
	begin := strings.Fields("fn f ( ) =")
	bodies := [][]string{begin}
	for range 4 {
		var longer [][]string
		for _, b := range bodies {
			againstGrammar(t, b)
			if stop(b) < len(b) {
				continue
			}
			for _, token := range short {
				longer = append(longer, append(slices.Clone(b), token))
			}
		}
		bodies = longer
	}
	for _, b := range bodies {
		againstGrammar(t, b)
	}
}
