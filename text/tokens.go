package text

import (
	"strconv"
	"strings"

	"adjoint/api"
)

// marks are the tokens that are no words.
const marks = "()[]{},:=+-*;"

// scan is a text's tokens; a fault is thrown.
func scan(s string) []api.Token {
	if len(s) > api.MaxText {
		panic(api.Fault{Err: api.ErrMuch})
	}
	var out []api.Token
	// The tokens are made of a copy: what is answered shares nothing with what is handed in.
	text := []byte(s)
	for at := 0; at < len(text); {
		end, is := piece(text, at)
		if is {
			out = append(out, api.Token{Text: string(text[at:end]), At: at})
		}
		at = end
	}
	return out
}

// piece is where that ends which begins at a place of a text, and whether it is a token.
func piece(text []byte, at int) (end int, is bool) {
	switch c := text[at]; {
	case isBlank(c):
		return at + 1, false
	case c == '#':
		return reach(text, at, func(c byte) bool { return c != '\n' }), false
	case isLetter(c):
		return reach(text, at, inWord), true
	case isDigit(c):
		end = reach(text, at, inWord)
		if err := wrongNumber(string(text[at:end])); err != api.OK {
			panic(api.Fault{Err: err, At: at})
		}
		return end, true
	case strings.IndexByte(marks, c) >= 0:
		return at + 1, true
	}
	panic(api.Fault{Err: api.ErrForm, At: at})
}

// reach is where the bytes end, from a place on, that are all such.
func reach(text []byte, at int, such func(c byte) bool) int {
	for at < len(text) && such(text[at]) {
		at++
	}
	return at
}

// wrongNumber is what is wrong with a word that begins with a digit.
func wrongNumber(word string) api.Errno {
	for i := range len(word) {
		if !isDigit(word[i]) {
			return api.ErrForm
		}
	}
	if word[0] == '0' && len(word) > 1 {
		return api.ErrForm
	}
	// Of digits alone nothing can be wrong but that they are too many.
	if _, err := strconv.ParseInt(word, 10, 64); err != nil {
		return api.ErrRange
	}
	return api.OK
}

// isName tells whether a text can be written as a name, and is read as one.
func isName(s string) bool {
	if s == "" || isDigit(s[0]) || isOwn(s) {
		return false
	}
	for i := range len(s) {
		if !inWord(s[i]) {
			return false
		}
	}
	return true
}

// isOwn tells whether a text is one of the words of the language.
func isOwn(s string) bool {
	switch s {
	case "fn", "let", "in", "repeat", "with":
		return true
	}
	return false
}

// isNumber tells whether a token is a number.
func isNumber(token string) bool { return token != "" && isDigit(token[0]) }

func isBlank(c byte) bool { return c == ' ' || c == '\t' || c == '\n' || c == '\r' }

func isLetter(c byte) bool { return c >= 'a' && c <= 'z' || c >= 'A' && c <= 'Z' || c == '_' }

func isDigit(c byte) bool { return c >= '0' && c <= '9' }

func inWord(c byte) bool { return isLetter(c) || isDigit(c) }
