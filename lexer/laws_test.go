package lexer_test

import (
	"slices"
	"strings"
	"testing"
	"unsafe"

	"retarget/api"
	"retarget/lexer"
)

// TestP7_4Places writes tokens with spaces and remarks between them, and finds each at its place.
func TestP7_4Places(t *testing.T) {
	m := newMaker(4)
	for range 5000 {
		s, want := m.laid(m.tokens(20))
		read(t, s, want...)
	}
}

// between reports whether s is only spaces and remarks.
func between(s string) bool { return skipped.ReplaceAllString(s, "") == "" }

// TestP7_4Between finds each token where it says, and nothing but spaces and remarks elsewhere.
func TestP7_4Between(t *testing.T) {
	m := newMaker(5)
	met := 0
	for range 20000 {
		s, _ := m.laid(m.tokens(8))
		if len(s) > 0 && m.IntN(2) == 0 {
			i := m.IntN(len(s))
			s = s[:i] + m.from(alphabet, m.IntN(3)) + s[i+m.IntN(2):]
		}
		l, _, e := lexer.Tokens(s)
		if e != api.OK {
			continue
		}
		end := 0
		for _, x := range l {
			if x.At < end || !between(s[end:x.At]) || !strings.HasPrefix(s[x.At:], written(x)) {
				t.Fatalf("%q: %v", s, x)
			}
			end = x.At + len(written(x))
			met++
		}
		if !between(s[end:]) {
			t.Fatalf("%q: %v", s, shown(l))
		}
	}
	if met < 40000 {
		t.Error(met)
	}
}

func TestP7_4TokensOfTheTextOfTokens(t *testing.T) {
	m := newMaker(6)
	lists := [][]api.LexToken{nil, samples(), slices.Repeat([]api.LexToken{line()}, api.MaxTokens), slices.Repeat([]api.LexToken{text("")}, api.MaxTokens), slices.Repeat([]api.LexToken{mark("+")}, api.MaxTokens), {text(strings.Repeat("#", api.MaxText-2))}}
	for range 3000 {
		lists = append(lists, m.tokens(40))
	}
	for _, l := range lists {
		s, e := lexer.Print(l)
		if e != api.OK {
			t.Fatalf("%v: %d", shown(l), e)
		}
		back, at, e := lexer.Tokens(s)
		if e != api.OK || at != 0 || !slices.Equal(withoutPlaces(back), withoutPlaces(l)) {
			t.Fatalf("%v: %.80q, with the tokens %v", shown(l), s, shown(back))
		}
		if again, e := lexer.Print(back); e != api.OK || again != s {
			t.Fatalf("%.80q, and then %.80q", s, again)
		}
	}
}

// TestP7_4LineBetween puts a line feed between two texts, of which also a remark may be the end.
func TestP7_4LineBetween(t *testing.T) {
	m := newMaker(7)
	texts := []string{"", " ", "#", "a", "# a", "a # b", "\"x\"", "\n", "a\n", "#\n#"}
	for range 60 {
		s, _ := m.laid(m.tokens(10))
		texts = append(texts, s)
	}
	for _, s := range texts {
		first, _, e := lexer.Tokens(s)
		if e != api.OK {
			t.Fatalf("%q: %d", s, e)
		}
		for _, u := range texts {
			second, _, _ := lexer.Tokens(u)
			want := append(slices.Clone(first), at(len(s), line()))
			for _, x := range second {
				want = append(want, at(len(s)+1+x.At, x))
			}
			read(t, s+"\n"+u, want...)
		}
		for _, bad := range []string{"$", " 007", "\"", "a \x00"} {
			_, place, _ := lexer.Tokens(bad)
			wrong(t, s+"\n"+bad, len(s)+1+place, api.ErrForm)
			wrong(t, bad+"\n"+s, place, api.ErrForm)
		}
	}
}

// TestR2Lists has lists with room for more, which are only read, and spoils what is returned.
func TestR2Lists(t *testing.T) {
	m := newMaker(8)
	bad := noTokens()
	for range 2000 {
		all := append(m.tokens(20), m.token(), pick(m, bad))
		kept := slices.Clone(all)
		l := all[:m.IntN(len(all))]
		s, e := lexer.Print(l)
		got := lexer.Lines(l)
		want := slices.Clone(got)
		for i := range want {
			want[i] = slices.Clone(want[i])
		}
		spoil(got)
		if !slices.Equal(all, kept) {
			t.Fatalf("%v became %v", shown(kept), shown(all))
		}
		if u, f := lexer.Print(l); u != s || f != e {
			t.Fatalf("%v: %q %d, and then %q %d", shown(l), s, e, u, f)
		}
		cut(t, l, want...)
	}
}

// spoil writes over all that lines have room for, and fails by a panic if two of them share memory.
func spoil(lines [][]api.LexToken) {
	lines = lines[:cap(lines)]
	for i, part := range lines {
		part = part[:cap(part)]
		for j := range part {
			if part[j].Kind == 77 {
				panic("two lines share memory")
			}
			part[j] = api.LexToken{Kind: 77, Text: "spoilt", Number: i, At: j}
		}
	}
}

func TestR2Tokens(t *testing.T) {
	m := newMaker(9)
	for range 1000 {
		s, want := m.laid(m.tokens(20))
		l, _, _ := lexer.Tokens(s)
		l = l[:cap(l)]
		for i := range l {
			l[i] = name("spoilt")
		}
		read(t, s, want...)
	}
}

// within reports whether a part of s lies in the memory of whole.
func within(s, whole string) bool {
	if s == "" || whole == "" {
		return false
	}
	first, last := uintptr(unsafe.Pointer(unsafe.StringData(s))), uintptr(unsafe.Pointer(unsafe.StringData(whole)))
	return first < last+uintptr(len(whole)) && last < first+uintptr(len(s))
}

// TestR2Strings finds no text of a result in the memory of an argument.
func TestR2Strings(t *testing.T) {
	s := strings.Clone("loop: add r1, -12 0x1f \"a b\" # r\n@")
	l, _, e := lexer.Tokens(s)
	if e != api.OK || len(l) != 10 {
		t.Fatal(shown(l), e)
	}
	for _, x := range l {
		if within(x.Text, s) {
			t.Errorf("%v shares memory with the text", x)
		}
	}
	for _, part := range lexer.Lines(l) {
		for _, x := range part {
			for _, y := range l {
				if within(x.Text, y.Text) {
					t.Errorf("%v shares memory with %v", x, y)
				}
			}
		}
	}
	for _, x := range l {
		if u, e := lexer.Print([]api.LexToken{x}); e != api.OK || within(u, x.Text) {
			t.Errorf("the text %q shares memory with %v", u, x)
		}
	}
}

// TestR2Calls holds calls between which others were made against each other.
func TestR2Calls(t *testing.T) {
	m := newMaker(10)
	s, want := m.laid(m.tokens(50))
	for range 50 {
		read(t, s, want...)
		wrong(t, "a $", 2, api.ErrForm)
		prints(t, want, printed(want))
		refuses(t, []api.LexToken{name("$")}, api.ErrBad)
		wrong(t, strings.Repeat(" ", api.MaxText+1), 0, api.ErrMany)
	}
}

// TestR7Great has arguments far beyond the limits.
func TestR7Great(t *testing.T) {
	great := strings.Repeat("a", 1<<24)
	wrong(t, great, 0, api.ErrMany)
	wrong(t, strings.Repeat("\"", 1<<24), 0, api.ErrMany)
	refuses(t, make([]api.LexToken, 1<<20), api.ErrMany)
	refuses(t, []api.LexToken{name(great)}, api.ErrBad)
	refuses(t, []api.LexToken{number(strings.Repeat("1", 1<<24), 1)}, api.ErrBad)
	refuses(t, []api.LexToken{number("0x"+great, 1)}, api.ErrBad)
	refuses(t, []api.LexToken{mark(great)}, api.ErrBad)
	refuses(t, []api.LexToken{{Kind: api.TokenLine, Text: great}}, api.ErrBad)
	refuses(t, []api.LexToken{text(great)}, api.ErrMany)
	refuses(t, []api.LexToken{text(great), text(great), line()}, api.ErrMany)
	if got := lexer.Lines(make([]api.LexToken, 1<<20)); len(got) != 1 || len(got[0]) != 1<<20 {
		t.Error(len(got))
	}
}
