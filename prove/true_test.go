package prove_test

import (
	"math"
	"testing"

	"retarget/api"
	"retarget/prove"
	"retarget/term"
)

func TestP6_2True(t *testing.T) {
	for _, c := range []struct {
		x    string
		want uint8
	}{
		{"1:1", api.AnswerYes}, {"1:0", api.AnswerNo}, {"a:1", api.AnswerNo}, {"(not a:1)", api.AnswerNo}, {"(or a:1 (not a:1))", api.AnswerYes}, {"(and a:1 (not a:1))", api.AnswerNo}, {"(or a:1 b:1)", api.AnswerNo}, {"(eq a:12 a:12)", api.AnswerYes},
		{"(ult a:8 8:ff)", api.AnswerNo}, {"(ult a:8 8:00)", api.AnswerNo}, {"(not (ult a:8 8:00))", api.AnswerYes}, {"(ult (urem a:8 8:05) 8:05)", api.AnswerYes}, {"(slt 8:80 (zext 8 a:7))", api.AnswerYes}, {"(not (eq (add a:6 6:01) a:6))", api.AnswerYes}, {"(ite a:1 (eq b:1 1:0) (ult c:4 4:f))", api.AnswerNo},
		{"(ult a:32 32:ffffffff)", api.AnswerNo}, {"(not (ult a:32 (and a:32 b:32)))", api.AnswerYes}, {"(ite (slt a:32 b:32) (not (slt b:32 a:32)) 1:1)", api.AnswerYes}, {"(not (eq a:64 (not a:64)))", api.AnswerYes}, {"(eq a:64 (and a:64 b:64))", api.AnswerNo},
	} {
		if got := truth(t, parse(c.x), 2000); got != c.want {
			t.Errorf("%s: %d, not %d", c.x, got, c.want)
		}
	}
	// The example is the only one there is.
	if v, e := prove.True(parse("(not (eq (concat a:6 b:6) 12:a5b))"), 0); e != api.OK || v.Answer != api.AnswerNo || v.Example[0].Bits != 0x29 || v.Example[1].Bits != 0x1b {
		t.Error(v, e)
	}
	if v, e := prove.True(parse("(not (eq (concat a:32 b:32) 64:0123456789abcdef))"), 0); e != api.OK || v.Answer != api.AnswerNo || v.Example[0].Bits != 0x01234567 || v.Example[1].Bits != 0x89abcdef {
		t.Error(v, e)
	}
}

// TestP6_2TrueOfSmallTerms has all of them with the width 1, negated ones, and those that compare two of them, with all values.
func TestP6_2TrueOfSmallTerms(t *testing.T) {
	all := pool(1)
	for _, a := range pool(2) {
		for _, b := range pool(2) {
			all = append(all, op(api.TermEq+uint8(len(all)%3), 1, a, b), op(api.TermNot, 1, op(api.TermUlt, 1, a, b)))
		}
	}
	counts := map[uint8]int{}
	for i, x := range all {
		counts[decidedTrue(t, x, i%2)]++
	}
	atLeast(t, counts, 300, 1000)
}

func TestP6_2TrueByChance(t *testing.T) {
	m := newMaker(2, 4, 1, 4)
	counts := map[uint8]int{}
	for range 2500 {
		a, b := m.pair()
		w := a.Width
		x := op(api.TermNot, 1, op(api.TermUlt, 1, op(api.TermOr, w, a, b), op(api.TermAnd, w, b, a)))
		if m.IntN(2) == 0 {
			x = op(api.TermEq+uint8(m.IntN(3)), 1, a, b)
		}
		if term.Check(x) == api.OK {
			counts[decidedTrue(t, x, m.IntN(3))]++
		}
	}
	atLeast(t, counts, 300, 300)
}

func TestP6_2ErrorsInOrder(t *testing.T) {
	a, load := variable("a", 1), parse("(load 8 a:1)")
	small := op(api.TermUlt, 1, load, load)
	for _, c := range []struct {
		what  string
		x     api.Term
		limit int
		e     api.Errno
	}{
		{"a variable", a, 0, api.OK}, {"a variable", a, math.MaxInt, api.OK}, {"a number", number(1, 1), 0, api.OK}, {"400 nodes", op(api.TermNot, 1, wide(api.TermXor, 200, a)), 0, api.OK}, {"60 deep", chain(59, api.TermNot, a), 0, api.OK},
		{"the limit", a, -1, api.ErrArg}, {"the least limit", a, math.MinInt, api.ErrArg}, {"the limit of a number", number(1, 1), -1, api.ErrArg},
		{"the zero term", api.Term{}, 0, api.ErrBad}, {"no value", number(1, 2), 0, api.ErrBad}, {"a part that is not chosen", op(api.TermIte, 1, number(1, 1), a, number(1, 2)), 0, api.ErrBad}, {"two widths", op(api.TermEq, 1, a, extract(0, 1, variable("a", 2))), 0, api.ErrWidth}, {"401 nodes", chain(2, api.TermNot, wide(api.TermXor, 200, a)), 0, api.ErrMany}, {"61 deep", chain(60, api.TermNot, a), 0, api.ErrMany}, {"itself", endless(1), 0, api.ErrMany}, {"itself twice", endless(2), 0, api.ErrMany},
		{"a load", small, 0, api.ErrArg}, {"a load of another width", load, 0, api.ErrArg}, {"a load that is dropped", op(api.TermAnd, 1, number(1, 0), small), 0, api.ErrArg}, {"a load and the limit", small, -1, api.ErrArg}, {"a load and not well-formed", op(api.TermXor, 1, small, number(1, 2)), 0, api.ErrBad}, {"a load and 401 nodes", chain(2, api.TermNot, wide(api.TermXor, 80, small)), 0, api.ErrMany}, {"a load and two widths", op(api.TermXor, 1, small, extract(0, 1, variable("a", 2))), 0, api.ErrWidth},
		{"another width", variable("a", 2), 0, api.ErrWidth}, {"the greatest width", variable("a", 64), 0, api.ErrWidth}, {"another width and the limit", variable("a", 2), -1, api.ErrWidth}, {"another width and not well-formed", op(api.TermNot, 2, a), 0, api.ErrBad}, {"another width and 401 nodes", chain(2, api.TermNot, wide(api.TermXor, 200, variable("a", 2))), 0, api.ErrMany},
		{"not well-formed and the limit", number(1, 2), -1, api.ErrBad}, {"two widths and the limit", op(api.TermEq, 1, a, extract(0, 1, variable("a", 2))), -1, api.ErrWidth}, {"two widths and another width", op(api.TermConcat, 3, a, variable("a", 2)), 0, api.ErrWidth}, {"401 nodes and not well-formed", chain(2, api.TermNot, wide(api.TermXor, 200, number(1, 2))), 0, api.ErrMany},
	} {
		v, e := prove.True(c.x, c.limit)
		if e != c.e {
			t.Errorf("%s, limit %d: %d, not %d", c.what, c.limit, e, c.e)
		}
		if e != api.OK && (v.Answer != 0 || len(v.Example) > 0) {
			t.Errorf("%s, limit %d: %v with the error %d", c.what, c.limit, v, e)
		}
	}
}
