package lexer_test

import (
	"fmt"
	"math/big"
	"math/rand/v2"
	"regexp"
	"slices"
	"strconv"
	"strings"
	"testing"

	"retarget/api"
	"retarget/lexer"
)

const (
	letters = "abcdefghijklmnopqrstuvwxyzABCDEFGHIJKLMNOPQRSTUVWXYZ"
	digits  = "0123456789"
	marks   = ",:=()[]{}@.+*/"
)

// name, text, mark, line and number make tokens without package lexer; their place is 0.
func name(s string) api.LexToken { return api.LexToken{Kind: api.TokenName, Text: s} }

func text(s string) api.LexToken { return api.LexToken{Kind: api.TokenText, Text: s} }

func mark(s string) api.LexToken { return api.LexToken{Kind: api.TokenMark, Text: s} }

func line() api.LexToken { return api.LexToken{Kind: api.TokenLine, Text: "\n"} }

func number(s string, n int) api.LexToken {
	return api.LexToken{Kind: api.TokenNumber, Text: s, Number: n}
}

// at returns t at another place.
func at(place int, t api.LexToken) api.LexToken {
	t.At = place
	return t
}

// samples returns a few tokens of each kind, and each mark.
func samples() []api.LexToken {
	all := []api.LexToken{
		name("a"), name("Z"), name("r1"), name("x_"), name("e9_E"), name("x0x1"), name(strings.Repeat("m", 24)),
		number("0", 0), number("7", 7), number("-1", -1), number("-12", -12), number("0x0", 0), number("0x1f", 31), number("0xfffffffffffffff", 1152921504606846975), number("999999999999999999", 999999999999999999), number("-999999999999999999", -999999999999999999),
		text(""), text(" "), text("a b"), text("(add a:8 8:0f)"), text("# no remark"), text("\\n~!$%&;<>?^`|'-_"), text("  "), line(),
	}
	for _, c := range marks {
		all = append(all, mark(string(c)))
	}
	return all
}

// noTokens returns values of which no text has a token.
func noTokens() []api.LexToken {
	var all []api.LexToken
	for _, t := range samples() {
		for kind := range 256 {
			if uint8(kind) != t.Kind {
				all = append(all, api.LexToken{Kind: uint8(kind), Text: t.Text, Number: t.Number})
			}
		}
		for _, n := range []int{1, -1, 1 << 62, -1 << 63} {
			all = append(all, api.LexToken{Kind: t.Kind, Text: t.Text, Number: t.Number + n})
		}
		if t.Kind != api.TokenText {
			for _, s := range []string{"", " " + t.Text, t.Text + " ", t.Text + "\n", "\n" + t.Text, t.Text + "#", "#" + t.Text, `"` + t.Text + `"`, t.Text + "\x00", t.Text + "$", t.Text + ",", t.Text + ",a"} {
				all = append(all, api.LexToken{Kind: t.Kind, Text: s, Number: t.Number})
			}
		}
	}
	// All that may stand between quotation marks is a token of another kind.
	return slices.DeleteFunc(all, func(t api.LexToken) bool { return t.Kind == api.TokenText && t.Number == 0 })
}

// The document's forms: what a token begins with and continues with, and what it must be.
var (
	skipped    = regexp.MustCompile(`^(?: |#[^\n]*)+`)
	nameBegins = regexp.MustCompile(`^[A-Za-z][A-Za-z0-9_]*`)
	aName      = regexp.MustCompile(`^[A-Za-z][A-Za-z0-9_]{0,23}$`)
	numBegins  = regexp.MustCompile(`^(?:-[1-9]|[0-9])[A-Za-z0-9_]*`)
	aDecimal   = regexp.MustCompile(`^(?:0|-?[1-9][0-9]{0,17})$`)
	aSixteen   = regexp.MustCompile(`^0x(?:0|[1-9a-f][0-9a-f]{0,14})$`)
	textBegins = regexp.MustCompile(`^"[^"]*"`)
	inText     = regexp.MustCompile(`^[ !#-~]*$`)
	aMark      = regexp.MustCompile(`^[,:=()\[\]{}@.+*/]`)
)

// reference finds the tokens of a text, or the first place with an error, without limits.
func reference(s string) (l []api.LexToken, at int, e api.Errno) {
	for at < len(s) {
		rest := s[at:]
		if n := len(skipped.FindString(rest)); n > 0 {
			at += n
			continue
		}
		t, n := first(rest)
		if n == 0 || !possible(t) {
			return nil, at, api.ErrForm
		}
		t.At = at
		l = append(l, t)
		at += n
	}
	return l, 0, api.OK
}

// first returns the token that begins at the beginning of s, even if it does not have its form, and its length, or 0 if none begins there.
func first(s string) (api.LexToken, int) {
	if x := nameBegins.FindString(s); x != "" {
		return name(x), len(x)
	}
	if x := numBegins.FindString(s); x != "" {
		return number(x, valueOf(x)), len(x)
	}
	if x := textBegins.FindString(s); x != "" {
		return text(x[1 : len(x)-1]), len(x)
	}
	if x := aMark.FindString(s); x != "" {
		return mark(x), len(x)
	}
	if strings.HasPrefix(s, "\n") {
		return line(), 1
	}
	return api.LexToken{}, 0
}

// valueOf returns the value of a number, or 0 if s is none.
func valueOf(s string) int {
	x := new(big.Int)
	if aSixteen.MatchString(s) {
		x.SetString(s[2:], 16)
	} else if aDecimal.MatchString(s) {
		x.SetString(s, 10)
	}
	return int(x.Int64())
}

// possible reports whether t is a token of a text, apart from At.
func possible(t api.LexToken) bool {
	switch t.Kind {
	case api.TokenName:
		return t.Number == 0 && aName.MatchString(t.Text)
	case api.TokenNumber:
		return t.Number == valueOf(t.Text) && (aDecimal.MatchString(t.Text) || aSixteen.MatchString(t.Text))
	case api.TokenText:
		return t.Number == 0 && inText.MatchString(t.Text)
	case api.TokenMark:
		return t.Number == 0 && len(t.Text) == 1 && aMark.MatchString(t.Text)
	}
	return t.Kind == api.TokenLine && t.Number == 0 && t.Text == "\n"
}

// written returns how a token is written.
func written(t api.LexToken) string {
	if t.Kind == api.TokenText {
		return "\"" + t.Text + "\""
	}
	return t.Text
}

// printed returns the text of tokens.
func printed(l []api.LexToken) string {
	var s strings.Builder
	for i, t := range l {
		if i > 0 && t.Kind != api.TokenLine && l[i-1].Kind != api.TokenLine {
			s.WriteString(" ")
		}
		s.WriteString(written(t))
	}
	return s.String()
}

// withoutPlaces returns the tokens with the place 0.
func withoutPlaces(l []api.LexToken) []api.LexToken {
	var out []api.LexToken
	for _, t := range l {
		out = append(out, at(0, t))
	}
	return out
}

// read fails unless s has these tokens at these places.
func read(t *testing.T, s string, want ...api.LexToken) {
	t.Helper()
	l, at, e := lexer.Tokens(s)
	if e != api.OK || at != 0 || !slices.Equal(l, want) {
		t.Errorf("%.80q: %v %d %d, not %v", s, shown(l), at, e, shown(want))
	}
}

// wrong fails unless the text s has this error at this place, and no tokens are returned.
func wrong(t *testing.T, s string, place int, want api.Errno) {
	t.Helper()
	l, at, e := lexer.Tokens(s)
	if e != want || at != place || len(l) != 0 {
		t.Errorf("%.80q: %v %d %d, not %d %d", s, shown(l), at, e, place, want)
	}
}

// shown shortens a list for a message.
func shown(l []api.LexToken) string {
	s := strconv.Itoa(len(l)) + ":"
	for _, t := range l[:min(len(l), 12)] {
		s += fmt.Sprintf(" {%d %.40q %d %d}", t.Kind, t.Text, t.Number, t.At)
	}
	return s
}

// shownAll shows lists.
func shownAll(lists [][]api.LexToken) string {
	s := strconv.Itoa(len(lists)) + ":"
	for _, l := range lists[:min(len(lists), 12)] {
		s += " [" + shown(l) + "]"
	}
	return s
}

// sameAsReference compares Tokens with reference for a short text, and returns whether it has tokens.
func sameAsReference(t *testing.T, s string) bool {
	t.Helper()
	l, at, e := reference(s)
	if e == api.OK {
		read(t, s, l...)
	} else {
		wrong(t, s, at, e)
	}
	return e == api.OK
}

// A maker makes texts and tokens by chance, always the same ones.
type maker struct{ *rand.Rand }

func newMaker(seed uint64) maker { return maker{rand.New(rand.NewPCG(seed, 7))} }

func pick[T any](m maker, l []T) T { return l[m.IntN(len(l))] }

// from returns a string of so many bytes of an alphabet.
func (m maker) from(alphabet string, many int) string {
	s := make([]byte, many)
	for i := range s {
		s[i] = alphabet[m.IntN(len(alphabet))]
	}
	return string(s)
}

// token returns a token at a place by chance.
func (m maker) token() api.LexToken { return at(m.IntN(100)-50, m.unplaced()) }

func (m maker) unplaced() api.LexToken {
	switch m.IntN(8) {
	case 0:
		return name(m.from(letters, 1) + m.from(letters+digits+"_", m.IntN(24)))
	case 1:
		s := m.from(digits[1:], 1) + m.from(digits, m.IntN(18))
		if m.IntN(2) == 0 {
			s = "-" + s
		}
		return number(s, valueOf(s))
	case 2:
		s := "0x" + m.from(digits[1:]+"abcdef", 1) + m.from(digits+"abcdef", m.IntN(15))
		return number(s, valueOf(s))
	case 3:
		return text(m.from(letters+digits+marks+" !#$%&';<>?\\^_`|~-", m.IntN(20)))
	case 4:
		return line()
	}
	return pick(m, samples())
}

// tokens returns a list of at most this many tokens.
func (m maker) tokens(most int) []api.LexToken {
	var l []api.LexToken
	for range m.IntN(most + 1) {
		l = append(l, m.token())
	}
	return l
}

// gap returns spaces, and at the end of a line sometimes a remark.
func (m maker) gap(endOfLine bool) string {
	s := strings.Repeat(" ", m.IntN(3))
	if endOfLine && m.IntN(2) == 0 {
		s += "#" + m.from(letters+digits+marks+" \"#\x00\t\r\x80\xff-", m.IntN(10))
	}
	return s
}

// apart reports whether there must be a gap between two tokens so that they are two.
func apart(a, b api.LexToken) bool {
	word := func(t api.LexToken) bool { return t.Kind == api.TokenName || t.Kind == api.TokenNumber }
	return word(a) && word(b) && !strings.HasPrefix(b.Text, "-")
}

// laid writes tokens with gaps by chance, and returns them with their places.
func (m maker) laid(l []api.LexToken) (string, []api.LexToken) {
	var s strings.Builder
	var out []api.LexToken
	for i, t := range l {
		if i > 0 && apart(l[i-1], t) {
			s.WriteString(" ")
		}
		s.WriteString(m.gap(t.Kind == api.TokenLine))
		out = append(out, at(s.Len(), t))
		s.WriteString(written(t))
	}
	s.WriteString(m.gap(true))
	return s.String(), out
}
