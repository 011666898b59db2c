package lexer_test

import (
	"math"
	"slices"
	"strings"
	"testing"

	"retarget/api"
	"retarget/lexer"
)

// prints fails unless Print returns this text.
func prints(t *testing.T, l []api.LexToken, want string) {
	t.Helper()
	if s, e := lexer.Print(l); e != api.OK || s != want {
		t.Errorf("%v: %.80q %d, not %.80q", shown(l), s, e, want)
	}
}

// refuses fails unless Print returns this error and no text.
func refuses(t *testing.T, l []api.LexToken, want api.Errno) {
	t.Helper()
	if s, e := lexer.Print(l); e != want || s != "" {
		t.Errorf("%v: %.80q %d, not %d", shown(l), s, e, want)
	}
}

func TestP7_2Texts(t *testing.T) {
	prints(t, nil, "")
	prints(t, []api.LexToken{}, "")
	prints(t, []api.LexToken{name("add"), name("r1"), mark(","), number("-12", -12)}, "add r1 , -12")
	prints(t, []api.LexToken{name("w"), mark(":"), text("(add a:8 8:0f)"), number("0x1f", 31)}, `w : "(add a:8 8:0f)" 0x1f`)
	prints(t, []api.LexToken{line()}, "\n")
	prints(t, []api.LexToken{line(), line(), line()}, "\n\n\n")
	prints(t, []api.LexToken{name("a"), line(), name("b")}, "a\nb")
	prints(t, []api.LexToken{line(), name("a"), name("b"), line(), line(), mark("("), mark(")"), line()}, "\na b\n\n( )\n")
	prints(t, []api.LexToken{text(""), text(""), line(), text(" "), text("#")}, "\"\" \"\"\n\" \" \"#\"")
	prints(t, []api.LexToken{number("1", 1), number("-2", -2), number("0", 0), number("0x0", 0)}, "1 -2 0 0x0")
}

// TestP7_2Pairs has each token alone, and each two of them.
func TestP7_2Pairs(t *testing.T) {
	for _, x := range samples() {
		prints(t, []api.LexToken{x}, written(x))
		for _, y := range samples() {
			between := " "
			if x.Kind == api.TokenLine || y.Kind == api.TokenLine {
				between = ""
			}
			prints(t, []api.LexToken{x, y}, written(x)+between+written(y))
		}
	}
}

// TestP7_2Places: At does not matter, whatever it is.
func TestP7_2Places(t *testing.T) {
	for _, place := range []int{0, 1, -1, 5, 65536, math.MaxInt, math.MinInt} {
		for _, x := range samples() {
			prints(t, []api.LexToken{at(place, x), at(place, x), at(-place, line())}, printed([]api.LexToken{x, x, line()}))
		}
		refuses(t, []api.LexToken{at(place, name(" a"))}, api.ErrBad)
	}
}

func TestP7_2NoTokens(t *testing.T) {
	for _, x := range noTokens() {
		if possible(x) {
			t.Fatalf("%v is a token", x)
		}
		refuses(t, []api.LexToken{x}, api.ErrBad)
		refuses(t, []api.LexToken{name("a"), x, line()}, api.ErrBad)
		refuses(t, []api.LexToken{name("a"), line(), x}, api.ErrBad)
	}
}

func TestP7_2NoTokensOfEachKind(t *testing.T) {
	for kind := range 256 {
		if kind >= 1 && kind <= 5 {
			continue
		}
		for _, s := range []string{"", "a", "0", ",", "\n", `""`} {
			refuses(t, []api.LexToken{{Kind: uint8(kind), Text: s}}, api.ErrBad)
		}
	}
	for _, s := range []string{"", " ", "_", "_a", "9a", "0", "a b", " a", "a ", "a\n", "a#", "a.b", "a-1", "a,", "é", "a\x00", "\"a\"", strings.Repeat("a", 25), strings.Repeat("a", 100000)} {
		refuses(t, []api.LexToken{name(s)}, api.ErrBad)
	}
	for _, s := range []string{"", " ", "-", "-0", "00", "007", "+1", "- 1", "--1", "1 ", " 1", "1\n", "1#", "1_0", "1-1", "1,", "0x", "0x00", "0x01", "0xA", "0x-1", "0x+1", "0X1", "-0x1", "0b1", "0o1", "1a", "a", "1000000000000000000", "-1000000000000000000", "0x1000000000000000", "9223372036854775807", "9223372036854775808", "99999999999999999999999", strings.Repeat("1", 100000)} {
		for _, n := range []int{0, 1, -1, 7, 10, 31, 1000000000000000000, -1000000000000000000, 1 << 60, math.MaxInt, math.MinInt} {
			refuses(t, []api.LexToken{number(s, n)}, api.ErrBad)
		}
	}
	for _, s := range []string{`"`, `a"`, `"a`, `"a"`, `a"b`, `a" "b`, `a"#`, `"#"`, "\n", "a\nb", "\t", "\r", "\x1f", "\x7f", "\x80", "\xff", "é", "\x00"} {
		refuses(t, []api.LexToken{text(s)}, api.ErrBad)
	}
	for _, s := range []string{"", " ", "a", "0", "-", "#", "_", "\"", "\n", "\r", ";", "$", "<", "\x00", "\xff", ",,", ", ", " ,", ",a", "()", "[]"} {
		refuses(t, []api.LexToken{mark(s)}, api.ErrBad)
	}
	for _, s := range []string{"", " ", "\r", "\r\n", "\n\n", "\n ", " \n", "a", ",", "#\n", "\\n", "\x00"} {
		refuses(t, []api.LexToken{{Kind: api.TokenLine, Text: s}}, api.ErrBad)
	}
}

// TestP7_2EachByte has each byte as each kind of token.
func TestP7_2EachByte(t *testing.T) {
	for i := range 256 {
		s := string([]byte{byte(i)})
		for kind := range uint8(7) {
			x := api.LexToken{Kind: kind, Text: s}
			if kind == api.TokenNumber && strings.Contains(digits, s) {
				x.Number = i - '0'
			}
			if possible(x) {
				prints(t, []api.LexToken{x}, written(x))
			} else {
				refuses(t, []api.LexToken{x}, api.ErrBad)
			}
		}
	}
}

func TestP7_2Numbers(t *testing.T) {
	for _, x := range []api.LexToken{number("10", 10), number("-10", -10), number("0x10", 16), number("0xa", 10), number("0", 0), number("0x0", 0), number("999999999999999999", 999999999999999999)} {
		prints(t, []api.LexToken{x}, x.Text)
		for _, n := range []int{x.Number + 1, x.Number - 1, -x.Number - 1, x.Number + 1<<32, x.Number ^ -1<<63} {
			refuses(t, []api.LexToken{number(x.Text, n)}, api.ErrBad)
		}
	}
	for _, x := range samples() {
		if x.Kind != api.TokenNumber {
			x.Number = 1
			refuses(t, []api.LexToken{x}, api.ErrBad)
		}
	}
}

func TestP7_2TooManyTokens(t *testing.T) {
	for _, x := range []api.LexToken{name("a"), mark(","), line(), text("")} {
		full := slices.Repeat([]api.LexToken{x}, api.MaxTokens)
		prints(t, full, printed(full))
		refuses(t, append(full, x), api.ErrMany)
		refuses(t, append(full, x, x, x), api.ErrMany)
		// That there are too many is said before one of them is no token.
		refuses(t, append(full, name("")), api.ErrMany)
		full[0] = name("")
		refuses(t, append(full, x), api.ErrMany)
		refuses(t, full, api.ErrBad)
	}
	refuses(t, make([]api.LexToken, api.MaxTokens), api.ErrBad)
	refuses(t, make([]api.LexToken, api.MaxTokens+1), api.ErrMany)
}

func TestP7_2TooManyBytes(t *testing.T) {
	for _, n := range []int{0, 1, 2, 1000} {
		// The quotation marks, and a space or none, are bytes of the text too.
		quoted := text(strings.Repeat("x", api.MaxText-2-n))
		least := strings.Repeat(" ", api.MaxText-3-n)
		many := slices.Repeat([]api.LexToken{line()}, n)
		prints(t, append(many, quoted), strings.Repeat("\n", n)+written(quoted))
		refuses(t, append(many, quoted, line()), api.ErrMany)
		refuses(t, append(many, quoted, mark(",")), api.ErrMany)
		refuses(t, append(many, text(quoted.Text+"x")), api.ErrMany)
		prints(t, append(many, text(least), line()), strings.Repeat("\n", n)+`"`+least+"\"\n")
		refuses(t, append(many, text(least), mark(",")), api.ErrMany)
		refuses(t, append(many, mark(","), text(least)), api.ErrMany)
		prints(t, append(many, text(least[1:]), mark(",")), strings.Repeat("\n", n)+`"`+least[1:]+`" ,`)
		prints(t, append(many, mark(","), text(least[1:])), strings.Repeat("\n", n)+`, "`+least[1:]+`"`)
	}
	long := strings.Repeat("a", 24)
	// 25 bytes for each name, but for the last one.
	names := slices.Repeat([]api.LexToken{name(long)}, 2621)
	rest := text(strings.Repeat(".", api.MaxText-25*2621-2))
	prints(t, append(slices.Clone(names), rest), printed(append(slices.Clone(names), rest)))
	rest.Text += "."
	refuses(t, append(slices.Clone(names), rest), api.ErrMany)
	refuses(t, slices.Repeat([]api.LexToken{name(long)}, api.MaxTokens), api.ErrMany)
}

// TestP7_2Order has lists in which several of the errors hold.
func TestP7_2Order(t *testing.T) {
	long := text(strings.Repeat("x", api.MaxText))
	bad := name("1")
	refuses(t, []api.LexToken{long}, api.ErrMany)
	refuses(t, []api.LexToken{long, bad}, api.ErrBad)
	refuses(t, []api.LexToken{bad, long}, api.ErrBad)
	refuses(t, []api.LexToken{long, long, long, bad}, api.ErrBad)
	refuses(t, []api.LexToken{{Kind: api.TokenText, Text: long.Text, Number: 1}}, api.ErrBad)
	refuses(t, []api.LexToken{{Kind: api.TokenText, Text: long.Text + "\n"}}, api.ErrBad)
	refuses(t, []api.LexToken{name(long.Text)}, api.ErrBad)
	refuses(t, append(slices.Repeat([]api.LexToken{long}, 100), bad), api.ErrBad)
	refuses(t, slices.Repeat([]api.LexToken{name("abc")}, api.MaxTokens), api.ErrMany)
	refuses(t, append(slices.Repeat([]api.LexToken{name("abc")}, api.MaxTokens-1), bad), api.ErrBad)
	refuses(t, append(slices.Repeat([]api.LexToken{name("abc")}, api.MaxTokens), bad), api.ErrMany)
}

// TestP7_2ListsByChance has lists of tokens, and some with a value that is none.
func TestP7_2ListsByChance(t *testing.T) {
	m := newMaker(2)
	bad := noTokens()
	for range 5000 {
		l := m.tokens(30)
		prints(t, l, printed(l))
		x := at(m.IntN(10), pick(m, bad))
		refuses(t, slices.Insert(l, m.IntN(len(l)+1), x), api.ErrBad)
	}
}
