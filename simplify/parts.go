package simplify

import (
	"retarget/api"
	"retarget/term"
)

// is holds if the part with the index i is the TermConst with the value n.
func is(i int, n number) condition {
	return func(t api.Term) bool {
		p := t.Sub[i]
		return p.Kind == api.TermConst && p.Bits == n(p.Width)
	}
}

// same holds if the parts with the indexes i and j are identical.
func same(i, j int) condition {
	return func(t api.Term) bool { return term.Same(t.Sub[i], t.Sub[j]) }
}

// constants holds if all parts are TermConsts.
func constants(t api.Term) bool {
	for _, p := range t.Sub {
		if p.Kind != api.TermConst {
			return false
		}
	}
	return true
}

// tooFar holds if a term is shifted by a TermConst of at least its width.
func tooFar(t api.Term) bool {
	by := t.Sub[1]
	return by.Kind == api.TermConst && by.Bits >= uint64(t.Width)
}

// already holds if the part has the width of the term itself.
func already(t api.Term) bool { return t.Sub[0].Width == t.Width }

// nested holds if the part has the kind of the term itself.
func nested(t api.Term) bool { return t.Sub[0].Kind == t.Kind }

// part is the part with the index i.
func part(i int) outcome {
	return func(t api.Term) api.Term { return t.Sub[i] }
}

// constant is the TermConst with the value n.
func constant(n number) outcome {
	return func(t api.Term) api.Term { return constOf(t.Width, n(t.Width)) }
}

func constOf(width int, x uint64) api.Term {
	return api.Term{Kind: api.TermConst, Width: width, Bits: x}
}

// folded is the TermConst of the value of a term whose parts are TermConsts; so the value has no error.
func folded(t api.Term) api.Term {
	x, _ := term.Value(t, nil, nil)
	return constOf(t.Width, x)
}

// inner is the part of the part.
func inner(t api.Term) api.Term { return t.Sub[0].Sub[0] }

// merged is the term with the part of its part. Both have a Low that is not zero only if they are TermExtracts.
func merged(t api.Term) api.Term {
	t.Low += t.Sub[0].Low
	t.Sub = t.Sub[0].Sub
	return t
}

// widened is the TermZext of the part that is below a zero. What is itself a TermZext there was simplified, so its part is none.
func widened(t api.Term) api.Term {
	low := t.Sub[1]
	if low.Kind == api.TermZext {
		low = low.Sub[0]
	}
	return api.Term{Kind: api.TermZext, Width: t.Width, Sub: []api.Term{low}}
}
