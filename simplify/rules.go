package simplify

import (
	"retarget/api"
	"retarget/bits"
)

// A rule returns what a valid term whose parts are simplified becomes, and whether the rule applies to it.
type rule func(t api.Term) (api.Term, bool)

// A condition says when a rule applies.
type condition func(t api.Term) bool

// An outcome says what a term becomes.
type outcome func(t api.Term) api.Term

// A number is the value of a TermConst of each width.
type number func(width int) uint64

func zero(int) uint64 { return 0 }

func one(int) uint64 { return 1 }

func ones(width int) uint64 { return bits.Mask(width) }

// rules returns the rules of each kind of terms that has some, in the order of the chapter's table.
func rules() map[uint8]rule {
	const x, y, z = 0, 1, 2
	fold := when(constants, folded)
	twice := join(fold, when(nested, inner))
	shift := join(fold, when(is(y, zero), part(x)), when(tooFar, constant(zero)), when(is(x, zero), constant(zero)))
	chain := join(fold, when(already, part(x)), when(nested, merged))
	return map[uint8]rule{
		api.TermNot:     twice,
		api.TermNeg:     twice,
		api.TermAdd:     join(fold, neutral(zero)),
		api.TermSub:     join(fold, when(is(y, zero), part(x)), when(same(x, y), constant(zero))),
		api.TermMul:     join(fold, absorbing(zero), neutral(one)),
		api.TermAnd:     join(fold, absorbing(zero), neutral(ones), when(same(x, y), part(x))),
		api.TermOr:      join(fold, absorbing(ones), neutral(zero), when(same(x, y), part(x))),
		api.TermXor:     join(fold, neutral(zero), when(same(x, y), constant(zero))),
		api.TermShl:     shift,
		api.TermShr:     shift,
		api.TermSar:     join(fold, when(is(y, zero), part(x)), when(is(x, zero), constant(zero))),
		api.TermUdiv:    join(fold, when(is(y, one), part(x))),
		api.TermUrem:    join(fold, when(is(y, one), constant(zero))),
		api.TermEq:      join(fold, when(same(x, y), constant(one))),
		api.TermUlt:     join(fold, when(same(x, y), constant(zero)), when(is(y, zero), constant(zero))),
		api.TermSlt:     join(fold, when(same(x, y), constant(zero))),
		api.TermIte:     join(fold, when(is(x, one), part(y)), when(is(x, zero), part(z)), when(same(y, z), part(y))),
		api.TermConcat:  join(fold, when(is(x, zero), widened)),
		api.TermExtract: chain,
		api.TermZext:    chain,
		api.TermSext:    chain,
	}
}

// join returns the rule that does what the first of these that applies does.
func join(rules ...rule) rule {
	return func(t api.Term) (api.Term, bool) {
		for _, rewrite := range rules {
			if becomes, applies := rewrite(t); applies {
				return becomes, true
			}
		}
		return api.Term{}, false
	}
}

// when returns the rule that applies if the condition holds.
func when(holds condition, becomes outcome) rule {
	return func(t api.Term) (api.Term, bool) {
		if !holds(t) {
			return api.Term{}, false
		}
		return becomes(t), true
	}
}

// neutral returns the rule of an operation that leaves one part as it is if the other one is n.
func neutral(n number) rule {
	return join(when(is(0, n), part(1)), when(is(1, n), part(0)))
}

// absorbing returns the rule of an operation whose value is n if one of the parts is.
func absorbing(n number) rule {
	return join(when(is(0, n), constant(n)), when(is(1, n), constant(n)))
}
