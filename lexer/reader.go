package lexer

import (
	"strconv"
	"strings"

	"retarget/api"
	"retarget/bits"
)

// A class tells what a byte means where no token has begun, and whether it continues a name or a number.
type class uint8

const (
	other class = iota
	space
	remark
	letter
	digit
	underscore
	minus
	quote
	mark
	lineEnd
)

// classes has no place for the bytes above the last mark: all of them are other.
var classes = [...]class{
	'\n': lineEnd, ' ': space, '"': quote, '#': remark, '-': minus, '_': underscore,
	'(': mark, ')': mark, '*': mark, '+': mark, ',': mark, '.': mark, '/': mark,
	':': mark, '=': mark, '@': mark, '[': mark, ']': mark, '{': mark, '}': mark,
	'0': digit, '1': digit, '2': digit, '3': digit, '4': digit, '5': digit, '6': digit, '7': digit, '8': digit, '9': digit,
	'A': letter, 'B': letter, 'C': letter, 'D': letter, 'E': letter, 'F': letter, 'G': letter, 'H': letter, 'I': letter, 'J': letter, 'K': letter, 'L': letter, 'M': letter,
	'N': letter, 'O': letter, 'P': letter, 'Q': letter, 'R': letter, 'S': letter, 'T': letter, 'U': letter, 'V': letter, 'W': letter, 'X': letter, 'Y': letter, 'Z': letter,
	'a': letter, 'b': letter, 'c': letter, 'd': letter, 'e': letter, 'f': letter, 'g': letter, 'h': letter, 'i': letter, 'j': letter, 'k': letter, 'l': letter, 'm': letter,
	'n': letter, 'o': letter, 'p': letter, 'q': letter, 'r': letter, 's': letter, 't': letter, 'u': letter, 'v': letter, 'w': letter, 'x': letter, 'y': letter, 'z': letter,
}

// A reader reads the tokens of text from the place at on. Its forms read the token whose first byte, the one at that place, is of a class, and report whether it has its form.
type reader struct {
	text  string
	at    int
	forms map[class]func() (api.LexToken, bool)
}

// newReader returns a reader of the empty text.
func newReader() *reader {
	r := &reader{}
	r.forms = map[class]func() (api.LexToken, bool){
		letter: r.name, digit: r.number, minus: r.number, quote: r.quoted, mark: r.mark, lineEnd: r.line,
	}
	return r
}

// class returns the class of the byte at i, which is other behind the end of the text.
func (r *reader) class(i int) class {
	if i >= len(r.text) || int(r.text[i]) >= len(classes) {
		return other
	}
	return classes[r.text[i]]
}

// skip goes on to the next byte that is no part of spaces and remarks.
func (r *reader) skip() {
	for {
		switch r.class(r.at) {
		case space:
			r.at++
		case remark:
			text, _, _ := strings.Cut(r.text[r.at:], "\n")
			r.at += len(text)
		default:
			return
		}
	}
}

// token reads the token that begins here, and goes on behind it. It stays here if there is none.
func (r *reader) token() (api.LexToken, bool) {
	form := r.forms[r.class(r.at)]
	if form == nil {
		return api.LexToken{}, false
	}
	t, ok := form()
	if !ok {
		return api.LexToken{}, false
	}
	t.At = r.at
	r.at += len(written(t))
	return t, true
}

// isToken reports whether there is a text of which t is a token, apart from At. If there is one, how t is written is such a text too.
func (r *reader) isToken(t api.LexToken) bool {
	r.text, r.at = written(t), 0
	t.At = 0
	first, ok := r.token()
	return ok && first == t
}

// word returns the byte here and all letters, digits and _ that follow it.
func (r *reader) word() string {
	end := r.at + 1
	for r.continues(end) {
		end++
	}
	return r.text[r.at:end]
}

func (r *reader) continues(i int) bool {
	c := r.class(i)
	return c == letter || c == digit || c == underscore
}

func (r *reader) name() (api.LexToken, bool) {
	s := r.word()
	return api.LexToken{Kind: api.TokenName, Text: s}, bits.Name(s)
}

func (r *reader) number() (api.LexToken, bool) {
	s := r.word()
	n, ok := value(s)
	return api.LexToken{Kind: api.TokenNumber, Text: s, Number: n}, ok
}

const (
	mostDecimal = 999_999_999_999_999_999 // 18 digits
	mostSixteen = 1<<60 - 1               // 15 digits
)

// value returns the value of a number. strconv reads more than the document's forms (zeros in front, -0, capital letters), so what it reads must also be written as in s.
func value(s string) (int, bool) {
	base, least, most := 10, -mostDecimal, mostDecimal
	digits, sixteen := strings.CutPrefix(s, "0x")
	if sixteen {
		base, least, most = 16, 0, mostSixteen
	}
	n, wrong := strconv.ParseInt(digits, base, 64)
	x := int(n)
	return x, wrong == nil && least <= x && x <= most && strconv.FormatInt(n, base) == digits
}

func (r *reader) quoted() (api.LexToken, bool) {
	inside, _, ends := strings.Cut(r.text[r.at+1:], `"`)
	return api.LexToken{Kind: api.TokenText, Text: inside}, ends && isPrintable(inside)
}

// isPrintable reports whether all bytes of s are those that may stand between quotation marks.
func isPrintable(s string) bool {
	for i := range len(s) {
		if s[i] < 32 || s[i] > 126 {
			return false
		}
	}
	return true
}

func (r *reader) mark() (api.LexToken, bool) { return r.single(api.TokenMark) }

func (r *reader) line() (api.LexToken, bool) { return r.single(api.TokenLine) }

// single returns the token that is just the byte here.
func (r *reader) single(kind uint8) (api.LexToken, bool) {
	return api.LexToken{Kind: kind, Text: r.text[r.at : r.at+1]}, true
}
