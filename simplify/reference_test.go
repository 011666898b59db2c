package simplify_test

import (
	"retarget/api"
	"retarget/bits"
	"retarget/term"
)

// reference is the chapter's table written down a second time: it tells parts apart by their texts.
func reference(t api.Term) api.Term {
	if len(t.Sub) == 0 {
		return t
	}
	folds := t.Kind != api.TermLoad
	var p []api.Term
	var s []string
	for i := range t.Sub {
		p = append(p, reference(t.Sub[i]))
		s = append(s, text(p[i]))
		folds = folds && p[i].Kind == api.TermConst
	}
	t.Sub = p
	if folds {
		return number(t.Width, must(term.Value(t, nil, nil)))
	}
	if len(p) == 1 {
		return referenceOne(t, p[0])
	}
	return referenceMore(t, p, s)
}

func referenceOne(t, x api.Term) api.Term {
	again := x.Kind == t.Kind
	switch t.Kind {
	case api.TermNot, api.TermNeg:
		if again {
			return x.Sub[0]
		}
	case api.TermExtract:
		if x.Width == t.Width {
			return x
		}
		if again {
			return extract(t.Low+x.Low, t.Width, x.Sub[0])
		}
	case api.TermZext, api.TermSext:
		if x.Width == t.Width {
			return x
		}
		if again {
			return op(t.Kind, t.Width, x.Sub[0])
		}
	}
	return t
}

func referenceMore(t api.Term, p []api.Term, s []string) api.Term {
	w := p[0].Width
	zero, one, ones := text(number(w, 0)), text(number(w, 1)), text(number(w, bits.Mask(w)))
	none, first, second := number(t.Width, 0), p[0], p[1]
	var lines []line
	switch t.Kind {
	case api.TermAdd:
		lines = []line{{s[0] == zero, second}, {s[1] == zero, first}}
	case api.TermSub:
		lines = []line{{s[1] == zero, first}, {s[0] == s[1], none}}
	case api.TermMul:
		lines = []line{{s[0] == zero, none}, {s[1] == zero, none}, {s[0] == one, second}, {s[1] == one, first}}
	case api.TermAnd:
		lines = []line{{s[0] == zero, none}, {s[1] == zero, none}, {s[0] == ones, second}, {s[1] == ones, first}, {s[0] == s[1], first}}
	case api.TermOr:
		all := number(t.Width, bits.Mask(t.Width))
		lines = []line{{s[0] == ones, all}, {s[1] == ones, all}, {s[0] == zero, second}, {s[1] == zero, first}, {s[0] == s[1], first}}
	case api.TermXor:
		lines = []line{{s[0] == zero, second}, {s[1] == zero, first}, {s[0] == s[1], none}}
	case api.TermShl, api.TermShr:
		far := second.Kind == api.TermConst && second.Bits >= uint64(t.Width)
		lines = []line{{s[1] == zero, first}, {far, none}, {s[0] == zero, none}}
	case api.TermSar:
		lines = []line{{s[1] == zero, first}, {s[0] == zero, none}}
	case api.TermUdiv:
		lines = []line{{s[1] == one, first}}
	case api.TermUrem:
		lines = []line{{s[1] == one, none}}
	case api.TermEq:
		lines = []line{{s[0] == s[1], number(1, 1)}}
	case api.TermUlt:
		lines = []line{{s[0] == s[1], none}, {s[1] == zero, none}}
	case api.TermSlt:
		lines = []line{{s[0] == s[1], none}}
	case api.TermIte:
		lines = []line{{s[0] == "1:1", second}, {s[0] == "1:0", p[2]}, {s[1] == s[2], second}}
	case api.TermConcat:
		if second.Kind == api.TermZext {
			second = second.Sub[0]
		}
		lines = []line{{s[0] == zero, op(api.TermZext, t.Width, second)}}
	}
	for _, l := range lines {
		if l.applies {
			return l.becomes
		}
	}
	return t
}

// A line says whether a rule applies, and what the term becomes by it.
type line struct {
	applies bool
	becomes api.Term
}
