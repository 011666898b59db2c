package prove_test

import (
	"math"
	"slices"
	"testing"

	"retarget/api"
	"retarget/prove"
	"retarget/term"
)

func TestP6_1EqualExamples(t *testing.T) {
	if got := equality(t, parse("(add a:8 a:8)"), parse("(shl a:8 8:01)"), 0); got != api.AnswerYes {
		t.Error(got)
	}
	a, b := parse("(add a:6 b:6)"), parse("(or a:6 b:6)")
	v, e := prove.Equal(a, b, 0)
	if e != api.OK || v.Answer != api.AnswerNo || len(v.Example) != 2 || v.Example[0].Bits&v.Example[1].Bits == 0 {
		t.Error(v, e)
	}
}

func TestP6_1EqualWithoutVariables(t *testing.T) {
	for _, c := range []struct {
		a, b string
		want uint8
	}{
		{"8:05", "8:05", api.AnswerYes}, {"8:05", "8:06", api.AnswerNo}, {"1:0", "1:1", api.AnswerNo}, {"64:ffffffffffffffff", "(not 64:0000000000000000)", api.AnswerYes}, {"(add 8:ff 8:01)", "8:00", api.AnswerYes},
		{"(udiv 64:ffffffffffffffff 64:0000000000000000)", "(sext 64 1:1)", api.AnswerYes}, {"(urem 64:8000000000000000 64:0000000000000003)", "64:0000000000000001", api.AnswerNo}, {"(concat 32:00000001 32:00000000)", "(shl 64:0000000000000001 64:0000000000000020)", api.AnswerYes},
	} {
		for _, limit := range []int{0, 1, math.MaxInt} {
			if got := equality(t, parse(c.a), parse(c.b), limit); got != c.want {
				t.Errorf("%s and %s: %d", c.a, c.b, got)
			}
		}
	}
}

// TestP6_1EqualOfOtherVariables has variables in only one of the terms, and variables that no value depends on: examples bind them too.
func TestP6_1EqualOfOtherVariables(t *testing.T) {
	for _, c := range []struct {
		a, b string
		want uint8
	}{
		{"a:8", "8:00", api.AnswerNo}, {"a:4", "b:4", api.AnswerNo}, {"(and a:8 8:00)", "8:00", api.AnswerYes}, {"(and a:6 6:00)", "(sub b:6 b:6)", api.AnswerYes}, {"(mul a:4 4:0)", "(add b:4 (not b:4))", api.AnswerNo}, {"(xor b:6 (xor a:6 b:6))", "a:6", api.AnswerYes},
		{"(sub b:3 b:3)", "(or a:3 (or c:3 3:1))", api.AnswerNo}, {"(ite c:1 b:8 b:8)", "(not b:8)", api.AnswerNo}, {"(ite c:1 b:8 b:8)", "(neg (neg b:8))", api.AnswerYes}, {"(extract 0 1 a:12)", "1:1", api.AnswerNo}, {"(ult a:6 6:00)", "(ult b:6 b:6)", api.AnswerYes}, {"(eq a:6 a:6)", "(ult b:6 b:6)", api.AnswerNo},
		// These have more than ProveSure bits.
		{"a:64", "64:0000000000000000", api.AnswerNo}, {"a:64", "b:64", api.AnswerNo}, {"(and a:64 64:0000000000000000)", "(sub b:64 b:64)", api.AnswerYes}, {"(mul a:64 64:0000000000000000)", "(add b:64 (not b:64))", api.AnswerNo}, {"(sub a:40 a:40)", "(or b:40 40:0000000001)", api.AnswerNo}, {"(ite c:1 b:64 b:64)", "(not b:64)", api.AnswerNo}, {"(concat a:32 (sub b:32 b:32))", "(concat a:32 (sub c:32 c:32))", api.AnswerYes}, {"(xor Z:64 (sub r.b:64 r.b:64))", "(xor (and z:64 64:0000000000000000) (add Z:64 64:0000000000000001))", api.AnswerNo},
	} {
		if got := equality(t, parse(c.a), parse(c.b), 100); got != c.want {
			t.Errorf("%s and %s: %d", c.a, c.b, got)
		}
	}
}

// sides returns terms as arguments of Equal, valid ones among them.
func sides() map[string]api.Term {
	a, load := variable("a", 8), parse("(load 8 a:8)")
	return map[string]api.Term{
		"a variable": a, "a number": number(8, 7), "another width": variable("b", 16), "a in another width": variable("a", 16), "a in another width, cut": extract(3, 8, variable("a", 16)), "the width 1": equal(a, a),
		"the zero term": {}, "no value of the width": number(8, 256), "no name": variable("9", 8), "a part too few": op(api.TermAdd, 8, a), "a part that is dropped": op(api.TermMul, 8, number(8, 0), number(8, 256)), "a kind too many": op(25, 8, a), "a width too great": variable("a", 65), "an extract from below": extract(-1, 8, a),
		"two widths": op(api.TermConcat, 24, a, variable("a", 16)), "two widths and not well-formed": op(api.TermConcat, 25, a, variable("a", 16)), "two widths and a load": op(api.TermConcat, 24, load, variable("a", 16)),
		"401 nodes": op(api.TermNot, 8, op(api.TermNot, 8, wide(api.TermAdd, 200, a))), "400 nodes": op(api.TermNot, 8, wide(api.TermAdd, 200, a)), "399 nodes": wide(api.TermAdd, 200, a), "199 nodes": wide(api.TermAdd, 100, a), "200 nodes": op(api.TermNot, 8, wide(api.TermAdd, 100, a)), "397 nodes and a load": wide(api.TermAdd, 133, load),
		"60 deep": chain(59, api.TermNot, a), "61 deep": chain(60, api.TermNot, a), "59 deep": chain(58, api.TermNeg, a), "60 deep and a load": chain(58, api.TermNot, load),
		"a load": load, "a load of another width": op(api.TermLoad, 16, a), "a load that is dropped": op(api.TermMul, 8, number(8, 0), load), "a load of nothing": op(api.TermLoad, 8), "a load of 9 bits": op(api.TermLoad, 9, a),
		"itself": endless(1), "itself twice": endless(2), "a million parts": op(api.TermAdd, 8, make([]api.Term, 1<<20)...),
	}
}

// TestP6_1ErrorsInOrder has all pairs of sides, with limits.
func TestP6_1ErrorsInOrder(t *testing.T) {
	first := func(a, b api.Term, limit int) api.Errno {
		for _, x := range []api.Term{a, b} {
			if e := term.Check(x); e != api.OK {
				return e
			}
		}
		switch {
		case hasLoad(a) || hasLoad(b):
			return api.ErrArg
		case a.Width != b.Width:
			return api.ErrWidth
		case term.Check(equal(a, b)) != api.OK:
			return term.Check(equal(a, b))
		case limit < 0:
			return api.ErrArg
		}
		return api.OK
	}
	seen := map[api.Errno]int{}
	for x, a := range sides() {
		for y, b := range sides() {
			for _, limit := range []int{0, -1, math.MinInt} {
				v, e := prove.Equal(a, b, limit)
				if want := first(a, b, limit); e != want {
					t.Errorf("%s, %s, limit %d: %d, not %d", x, y, limit, e, want)
				}
				if e != api.OK && (v.Answer != 0 || len(v.Example) > 0) {
					t.Errorf("%s, %s, limit %d: %v with the error %d", x, y, limit, v, e)
				}
				seen[e]++
			}
		}
	}
	for _, e := range []api.Errno{api.OK, api.ErrArg, api.ErrMany, api.ErrBad, api.ErrWidth} {
		if seen[e] < 30 {
			t.Errorf("%d was seen %d times", e, seen[e])
		}
	}
}

// TestP6_1EachError has those pairs of sides for which one error comes before another one.
func TestP6_1EachError(t *testing.T) {
	side := sides()
	for _, c := range []struct {
		a, b  string
		limit int
		e     api.Errno
	}{
		{"a variable", "a number", 0, api.OK}, {"a variable", "a number", math.MaxInt, api.OK}, {"a variable", "a number", -1, api.ErrArg}, {"a variable", "a variable", math.MinInt, api.ErrArg}, {"a number", "a number", -1, api.ErrArg},
		{"the zero term", "a variable", 0, api.ErrBad}, {"a variable", "the zero term", 0, api.ErrBad}, {"401 nodes", "a variable", 0, api.ErrMany}, {"a variable", "61 deep", 0, api.ErrMany}, {"two widths", "a variable", 0, api.ErrWidth}, {"a variable", "two widths", 0, api.ErrWidth},
		{"the zero term", "401 nodes", 0, api.ErrBad}, {"401 nodes", "the zero term", 0, api.ErrMany}, {"two widths", "the zero term", 0, api.ErrWidth}, {"the zero term", "two widths", 0, api.ErrBad}, {"itself", "the zero term", -1, api.ErrMany}, {"two widths", "itself", -1, api.ErrWidth},
		{"a load", "a variable", 0, api.ErrArg}, {"a variable", "a load", 0, api.ErrArg}, {"a load", "the zero term", 0, api.ErrBad}, {"401 nodes", "a load", 0, api.ErrMany}, {"two widths and a load", "a load", 0, api.ErrWidth}, {"a load of nothing", "a variable", 0, api.ErrBad},
		{"a load", "another width", 0, api.ErrArg}, {"a variable", "a load of another width", -1, api.ErrArg}, {"a load", "400 nodes", 0, api.ErrArg}, {"60 deep and a load", "a variable", 0, api.ErrArg}, {"a load", "a in another width, cut", 0, api.ErrArg}, {"a load that is dropped", "a number", 0, api.ErrArg},
		{"a variable", "another width", 0, api.ErrWidth}, {"another width", "400 nodes", 0, api.ErrWidth}, {"60 deep", "a in another width", -1, api.ErrWidth}, {"a variable", "another width", -1, api.ErrWidth},
		{"a variable", "a in another width, cut", 0, api.ErrWidth}, {"a variable", "a in another width, cut", -1, api.ErrWidth}, {"400 nodes", "a number", 0, api.ErrMany}, {"a number", "399 nodes", 0, api.ErrMany}, {"199 nodes", "200 nodes", 0, api.OK}, {"200 nodes", "200 nodes", 0, api.ErrMany}, {"200 nodes", "200 nodes", -1, api.ErrMany}, {"60 deep", "a number", 0, api.ErrMany}, {"a number", "60 deep", -1, api.ErrMany}, {"59 deep", "59 deep", 0, api.OK}, {"59 deep", "59 deep", -1, api.ErrArg}, {"60 deep", "a in another width, cut", 0, api.ErrMany},
	} {
		if _, e := prove.Equal(side[c.a], side[c.b], c.limit); e != c.e {
			t.Errorf("%s, %s, limit %d: %d, not %d", c.a, c.b, c.limit, e, c.e)
		}
	}
}

// pool returns terms of the width of each kind, with variables of 5 bits in all.
func pool(w int) []api.Term {
	a, b, c := variable("a", 2), variable("b", 2), variable("c", 1)
	var all []api.Term
	for _, x := range []api.Term{a, b, c, number(2, 2), number(1, 1)} {
		all = append(all, x, op(api.TermNot, x.Width, x), op(api.TermNeg, x.Width, x), op(api.TermZext, 3, x), op(api.TermSext, 3, x), op(api.TermSext, x.Width, x), extract(x.Width-1, 1, x), extract(0, 1, x), op(api.TermConcat, x.Width+1, x, c), op(api.TermConcat, x.Width+1, c, x))
	}
	for _, p := range [][2]api.Term{{a, b}, {b, a}, {a, a}, {b, number(2, 1)}, {number(2, 2), a}, {c, number(1, 1)}, {a, op(api.TermZext, 2, c)}} {
		for kind := api.TermAdd; kind <= api.TermUrem; kind++ {
			all = append(all, op(kind, p[0].Width, p[0], p[1]))
		}
		for kind := api.TermEq; kind <= api.TermSlt; kind++ {
			all = append(all, op(kind, 1, p[0], p[1]))
		}
		all = append(all, op(api.TermIte, p[0].Width, c, p[0], p[1]), op(api.TermIte, p[0].Width, op(api.TermUlt, 1, p[0], p[1]), p[0], p[1]))
	}
	return slices.DeleteFunc(all, func(x api.Term) bool { return x.Width != w })
}

// TestP6_1EqualOfSmallTerms has all pairs of them, and all values.
func TestP6_1EqualOfSmallTerms(t *testing.T) {
	counts := map[uint8]int{}
	kinds := map[uint8]bool{}
	for w := 1; w <= 3; w++ {
		all := pool(w)
		for i, a := range all {
			kinds[a.Kind] = true
			for _, b := range all[:i+1] {
				counts[decided(t, a, b, 0)]++
			}
		}
	}
	for kind := api.TermConst; kind < api.TermLoad; kind++ {
		if !kinds[kind] {
			t.Errorf("no term of the kind %d", kind)
		}
	}
	atLeast(t, counts, 200, 2000)
}

func TestP6_1EqualByChance(t *testing.T) {
	atLeast(t, newMaker(1, 3, 4, 1).counts(t, 2500, 0, 1, 2), 600, 600)
}
