package text_test

import (
	"slices"
	"strings"
	"testing"

	"adjoint/api"
	"adjoint/text"
)

const (
	letters = "abcdefghijklmnopqrstuvwxyzABCDEFGHIJKLMNOPQRSTUVWXYZ_"
	digits  = "0123456789"
	marks   = "()[]{},:=+-*;"
	blanks  = " \t\n\r"
)

func TestP1Ordinary(t *testing.T) {
	wantTokens(t, "let x=12 # a remark\n{}", api.Token{Text: "let", At: 0}, api.Token{Text: "x", At: 4}, api.Token{Text: "=", At: 5},
		api.Token{Text: "12", At: 6}, api.Token{Text: "{", At: 20}, api.Token{Text: "}", At: 21})
	wantTokens(t, "\tab_9 A0*_\r\n(0,", api.Token{Text: "ab_9", At: 1}, api.Token{Text: "A0", At: 6}, api.Token{Text: "*", At: 8},
		api.Token{Text: "_", At: 9}, api.Token{Text: "(", At: 12}, api.Token{Text: "0", At: 13}, api.Token{Text: ",", At: 14})
	wantTokens(t, "__1_", api.Token{Text: "__1_", At: 0})
	wantTokens(t, "==:=--", api.Token{Text: "=", At: 0}, api.Token{Text: "=", At: 1}, api.Token{Text: ":", At: 2},
		api.Token{Text: "=", At: 3}, api.Token{Text: "-", At: 4}, api.Token{Text: "-", At: 5})
	// A number ends where a mark stands: there is no number below 0, and none with a point.
	wantTokens(t, "-1+2", api.Token{Text: "-", At: 0}, api.Token{Text: "1", At: 1}, api.Token{Text: "+", At: 2}, api.Token{Text: "2", At: 3})
}

func TestP1NoTokens(t *testing.T) {
	for _, s := range []string{"", " ", "\n", blanks, "#", "# a ? 007 \x00 \xff \u00e4", "#\n", "##\n#\n\n", " # a\r b", "#" + times("?", 65535), times(" ", 65536)} {
		wantTokens(t, s)
		wantRead(t, s, nil)
	}
}

func TestP1Remarks(t *testing.T) {
	a, b := api.Token{Text: "a", At: 0}, api.Token{Text: "b", At: 4}
	wantTokens(t, "a#?\nb", a, b)
	wantTokens(t, "a##\nb", a, b)
	wantTokens(t, "a#b\n", a)
	wantTokens(t, "a#b", a)
	wantTokens(t, "a#", a)
	// A carriage return ends no remark.
	wantTokens(t, "a#\rb", a)
	wantTokens(t, "a\n#\nb", a, b)
	// The line feed is none of the remark's: what stands behind it is a token.
	wantTokens(t, "# b\nb", b)
}

// Each byte alone, and between two letters.
func TestP1EachByte(t *testing.T) {
	for c := range 256 {
		s := string([]byte{byte(c)})
		before, after := api.Token{Text: "a", At: 0}, api.Token{Text: "b", At: 2}
		switch {
		case strings.Contains(letters, s):
			wantTokens(t, s, api.Token{Text: s, At: 0})
			wantTokens(t, "a"+s+"b", api.Token{Text: "a" + s + "b", At: 0})
		case strings.Contains(digits, s):
			wantTokens(t, s, api.Token{Text: s, At: 0})
			wantTokens(t, "a"+s+"b", api.Token{Text: "a" + s + "b", At: 0})
			wantBad(t, "a "+s+"b", api.ErrForm, 2)
		case strings.Contains(marks, s):
			wantTokens(t, s, api.Token{Text: s, At: 0})
			wantTokens(t, "a"+s+"b", before, api.Token{Text: s, At: 1}, after)
		case strings.Contains(blanks, s):
			wantTokens(t, s)
			wantTokens(t, "a"+s+"b", before, after)
		case s == "#":
			wantTokens(t, "a"+s+"b", before)
		default:
			wantBad(t, s, api.ErrForm, 0)
			wantBad(t, "a"+s+"b", api.ErrForm, 1)
			wantBad(t, "12"+s, api.ErrForm, 2)
		}
	}
}

func TestP1Numbers(t *testing.T) {
	for _, s := range []string{"0", "1", "9", "10", "100", "1234567890", "999999999999999999", "9223372036854775806", "9223372036854775807"} {
		wantTokens(t, s, api.Token{Text: s, At: 0})
		wantTokens(t, " "+s+"-", api.Token{Text: s, At: 1}, api.Token{Text: "-", At: 1 + len(s)})
	}
	for _, s := range []string{"00", "01", "007", "0x", "0_", "1_000", "3x", "12a4", "09223372036854775807", "0" + times("9", 100), "1e5",
		"9223372036854775808x", times("9", 100) + "_", times("0", 65534)} {
		wantBad(t, s, api.ErrForm, 0)
		wantBad(t, "a "+s[:len(s)-2]+s[len(s)-2:], api.ErrForm, 2)
	}
	for _, s := range []string{"9223372036854775808", "9223372036854775810", "10000000000000000000", "18446744073709551616", "18446744073709551617",
		times("9", 100), "1" + times("0", 65533)} {
		wantBad(t, s, api.ErrRange, 0)
		wantBad(t, "a "+s, api.ErrRange, 2)
	}
	wantTokens(t, "1 0 0", api.Token{Text: "1", At: 0}, api.Token{Text: "0", At: 2}, api.Token{Text: "0", At: 4})
}

// The text is gone through from its beginning: of several faults the first is told.
func TestP1First(t *testing.T) {
	wantBad(t, "a ? 007 9223372036854775808", api.ErrForm, 2)
	wantBad(t, "a 9223372036854775808 007 ?", api.ErrRange, 2)
	wantBad(t, "a 007 9223372036854775808 ?", api.ErrForm, 2)
	wantBad(t, "a 007?", api.ErrForm, 2)
	wantBad(t, "a 9223372036854775808?", api.ErrRange, 2)
	wantBad(t, "# ?\n ?", api.ErrForm, 5)
	wantBad(t, "a?#", api.ErrForm, 1)
	// What is wrong with a word comes ahead of what is wrong with how the words stand.
	wantBad(t, ") fn fn ?", api.ErrForm, 8)
	wantBad(t, ") 9223372036854775808", api.ErrRange, 2)
	wantBad(t, "fn f() = "+times("(", 70)+"01", api.ErrForm, 79)
	wantBad(t, "fn f() = 1"+times("+1", 70)+"!", api.ErrForm, 150)
}

func TestP1MaxText(t *testing.T) {
	for _, one := range []string{"x", "x ", "(", ";", " ", "#", "?", "0"} {
		most := times(one, 65536/len(one))
		wantBad(t, most+one[:1], api.ErrMuch, 0)
		wantBad(t, times(most, 100), api.ErrMuch, 0)
		if one == "?" || one == "0" {
			wantBad(t, most, api.ErrForm, 0)
		}
	}
	wantTokens(t, times("x", 65536), api.Token{Text: times("x", 65536), At: 0})
	got, f := text.Tokens(times("(", 65536))
	if f != (api.Fault{}) || len(got) != 65536 || got[65535] != (api.Token{Text: "(", At: 65535}) {
		t.Errorf("65536 brackets: %d tokens, %v", len(got), f)
	}
	// More than MaxText bytes, whatever they are.
	wantBad(t, "fn f() = 1;"+times(" ", 65536), api.ErrMuch, 0)
	wantBad(t, "?"+times(" ", 65536), api.ErrMuch, 0)
	wantBad(t, times("\u00e4", 32768)+"#", api.ErrMuch, 0)
	wantRead(t, "fn f() = 1;"+times(" ", 65536-11), only(num(1)))
	wantRead(t, "fn f() = 1;#"+times("?", 65536-12), only(num(1)))
}

// All of a text stands in its tokens, but for what is skipped; each stands where it says.
func TestP1Places(t *testing.T) {
	s := strings.Join([]string{programs[0], programs[1], "# x\n", programs[2], letters, marks, " 0 1 20 #"}, "\r\n\t ")
	got, f := text.Tokens(s)
	if f != (api.Fault{}) {
		t.Fatal(f)
	}
	end := 0
	for _, token := range got {
		if token.At < end || token.At+len(token.Text) > len(s) || s[token.At:token.At+len(token.Text)] != token.Text {
			t.Fatalf("%v stands elsewhere", token)
		}
		gap := s[end:token.At]
		if remark := strings.Index(gap, "#"); remark >= 0 {
			gap = gap[:remark]
		}
		if strings.Trim(gap, blanks) != "" {
			t.Errorf("%q is left out ahead of %v", gap, token)
		}
		end = token.At + len(token.Text)
	}
	if again, _ := text.Tokens(s); !slices.Equal(got, again) {
		t.Error("the same text has other tokens")
	}
}
