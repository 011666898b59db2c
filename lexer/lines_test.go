package lexer_test

import (
	"math"
	"slices"
	"strings"
	"testing"

	"retarget/api"
	"retarget/lexer"
)

// cut fails unless Lines returns these lists.
func cut(t *testing.T, l []api.LexToken, want ...[]api.LexToken) {
	t.Helper()
	if got := lexer.Lines(l); !slices.EqualFunc(got, want, slices.Equal) {
		t.Errorf("%v: %v, not %v", shown(l), shownAll(got), shownAll(want))
	}
}

func TestP7_3Lines(t *testing.T) {
	a, b, c := at(3, name("a")), at(-7, number("0x1", 1)), at(3, text("x y"))
	cut(t, nil, nil)
	cut(t, []api.LexToken{}, nil)
	cut(t, []api.LexToken{a}, []api.LexToken{a})
	cut(t, []api.LexToken{a, b, c}, []api.LexToken{a, b, c})
	cut(t, []api.LexToken{line()}, nil, nil)
	cut(t, []api.LexToken{line(), line()}, nil, nil, nil)
	cut(t, []api.LexToken{line(), line(), line(), line()}, nil, nil, nil, nil, nil)
	cut(t, []api.LexToken{a, line()}, []api.LexToken{a}, nil)
	cut(t, []api.LexToken{line(), a}, nil, []api.LexToken{a})
	cut(t, []api.LexToken{a, line(), b}, []api.LexToken{a}, []api.LexToken{b})
	cut(t, []api.LexToken{a, b, line(), line(), c, a, line()}, []api.LexToken{a, b}, nil, []api.LexToken{c, a}, nil)
	cut(t, []api.LexToken{line(), a, line(), line(), b, c, b, line(), line()}, nil, []api.LexToken{a}, nil, []api.LexToken{b, c, b}, nil, nil)
}

// TestP7_3AnyList has values that are no tokens: those of the kind TokenLine end a line, whatever else they are.
func TestP7_3AnyList(t *testing.T) {
	for _, x := range append(noTokens(), api.LexToken{}, api.LexToken{Kind: 255, Text: strings.Repeat("\xff", 1000), Number: math.MinInt, At: math.MinInt}, api.LexToken{Kind: 6, Text: "\n"}, mark("\n"), text("\n")) {
		if x.Kind == api.TokenLine {
			cut(t, []api.LexToken{x}, nil, nil)
			cut(t, []api.LexToken{name("a"), x, x, name("b")}, []api.LexToken{name("a")}, nil, []api.LexToken{name("b")})
			continue
		}
		cut(t, []api.LexToken{x}, []api.LexToken{x})
		cut(t, []api.LexToken{x, line(), x, x}, []api.LexToken{x}, []api.LexToken{x, x})
	}
	cut(t, []api.LexToken{name("a"), {Kind: api.TokenLine, Text: "x", Number: 3, At: -1}, name("b"), {Kind: api.TokenLine}}, []api.LexToken{name("a")}, []api.LexToken{name("b")}, nil)
}

func TestP7_3LongLists(t *testing.T) {
	const many = 3 * api.MaxTokens
	if got := lexer.Lines(slices.Repeat([]api.LexToken{line()}, many)); len(got) != many+1 {
		t.Error(len(got))
	}
	cut(t, slices.Repeat([]api.LexToken{name("a")}, many), slices.Repeat([]api.LexToken{name("a")}, many))
	got := lexer.Lines(slices.Repeat([]api.LexToken{name("a"), line()}, many))
	if len(got) != many+1 || len(got[0]) != 1 || len(got[many-1]) != 1 || len(got[many]) != 0 {
		t.Error(len(got))
	}
}

// TestP7_3ListsByChance puts the lines together again.
func TestP7_3ListsByChance(t *testing.T) {
	m := newMaker(3)
	bad := noTokens()
	for range 5000 {
		l := m.tokens(30)
		if m.IntN(2) == 0 {
			l = append(l, pick(m, bad), m.token())
		}
		for i, x := range l {
			if x.Kind == api.TokenLine {
				l[i] = line()
			}
		}
		got := lexer.Lines(l)
		ends := 0
		for _, x := range l {
			if x.Kind == api.TokenLine {
				ends++
			}
		}
		var joined []api.LexToken
		for i, part := range got {
			if i > 0 {
				joined = append(joined, line())
			}
			if slices.ContainsFunc(part, func(x api.LexToken) bool { return x.Kind == api.TokenLine }) {
				t.Fatalf("%v: %v", shown(l), shown(part))
			}
			joined = append(joined, part...)
		}
		if len(got) != ends+1 || !slices.Equal(joined, l) {
			t.Fatalf("%v: %v", shown(l), shownAll(got))
		}
	}
}
