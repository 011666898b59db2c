package prove_test

import (
	"math"
	"slices"
	"testing"

	"retarget/api"
	"retarget/prove"
	"retarget/term"
)

// joined returns a term of the width 64 whose value depends on each bit of these variables.
func joined(vars []api.Binding) api.Term {
	t := number(64, 1)
	for _, v := range vars {
		t = op(api.TermAdd, 64, op(api.TermMul, 64, t, number(64, 4099)), op(api.TermZext, 64, variable(v.Name, v.Width)))
	}
	return t
}

// splits returns variables with 12 bits in all, in several ways.
func splits() [][]api.Binding {
	single := func(names ...string) []api.Binding {
		var vars []api.Binding
		for _, name := range names {
			vars = append(vars, api.Binding{Name: name, Width: 12 / len(names)})
		}
		return vars
	}
	return [][]api.Binding{
		single("a"), single("a", "b"), single("Z", "a", "b"), single("A", "B", "C", "D", "E", "F", "G", "H", "I", "J", "K", "L"),
		{{Name: "a", Width: 11}, {Name: "b", Width: 1}}, {{Name: "r.a", Width: 1}, {Name: "r.b", Width: 9}, {Name: "ra", Width: 2}},
	}
}

// TestP6_3TwelveBits has terms with ProveSure bits of variables, which are decided whatever the limit is: equal ones, and ones that differ for all values or for one list of values only.
func TestP6_3TwelveBits(t *testing.T) {
	for _, vars := range splits() {
		if widthOf(vars) != api.ProveSure {
			t.Fatal(vars)
		}
		x := joined(vars)
		last := slices.Clone(vars)
		for i := range last {
			last[i].Bits = 1<<last[i].Width - 1
		}
		// No circuit has this quotient, and only the product of the last values is that number.
		y := op(api.TermUdiv, 64, x, op(api.TermOr, 64, x, number(64, 1)))
		z := op(api.TermAdd, 64, x, op(api.TermZext, 64, equal(x, number(64, value(x, last)))))
		twice := op(api.TermShl, 64, op(api.TermMul, 64, x, x), number(64, 1))
		for _, limit := range []int{0, 1, math.MaxInt} {
			if got := equality(t, op(api.TermMul, 64, op(api.TermAdd, 64, x, x), x), twice, limit); got != api.AnswerYes {
				t.Errorf("%v, limit %d: products: %d", vars, limit, got)
			}
			if got := equality(t, op(api.TermXor, 64, x, y), y, limit); got != api.AnswerNo {
				t.Errorf("%v, limit %d: quotients: %d", vars, limit, got)
			}
			v, e := prove.Equal(x, z, limit)
			if e != api.OK || v.Answer != api.AnswerNo || !slices.Equal(v.Example, last) {
				t.Errorf("%v, limit %d: %v, and only %v is an example", vars, limit, v, last)
			}
		}
	}
}

func TestP6_3TwelveBitsByChance(t *testing.T) {
	for i, widths := range [][]int{{12}, {6, 6}, {4, 7, 1}, {3, 3, 3, 3}} {
		atLeast(t, newMaker(uint64(30+i), widths...).counts(t, 40, 0, 1, 2), 8, 8)
	}
}

// TestP6_3MoreBits has one bit more, where terms may be hard, but no answer may be wrong.
func TestP6_3MoreBits(t *testing.T) {
	for i, widths := range [][]int{{13}, {7, 6}, {1, 4, 8}, {4, 3, 3, 3}} {
		atLeast(t, newMaker(uint64(40+i), widths...).counts(t, 40, 0, 3, 200), 8, 8)
	}
	for _, vars := range splits() {
		more := append(slices.Clone(vars), api.Binding{Name: "z", Width: 1})
		x := joined(more)
		for _, limit := range []int{0, 50} {
			if got := equality(t, op(api.TermAdd, 64, x, x), op(api.TermShl, 64, x, number(64, 1)), limit); got == api.AnswerNo {
				t.Errorf("%v, limit %d: sums: %d", more, limit, got)
			}
			if got := equality(t, x, op(api.TermXor, 64, x, op(api.TermZext, 64, variable("z", 1))), limit); got == api.AnswerYes {
				t.Errorf("%v, limit %d: another bit: %d", more, limit, got)
			}
		}
	}
}

// TestP6_3Limit has terms of 24 bits that are equal: the greater the limit, the more is decided.
func TestP6_3Limit(t *testing.T) {
	a, b := parse("(add a:8 (add b:8 c:8))"), parse("(add (add a:8 b:8) c:8)")
	hard, decided := 0, false
	for limit := 0; limit <= 4*api.MaxSteps; limit = 2*limit + 1 {
		got := equality(t, a, b, limit)
		if got == api.AnswerNo || decided && got != api.AnswerYes {
			t.Fatalf("limit %d: %d", limit, got)
		}
		if decided = got == api.AnswerYes; !decided {
			hard++
		}
	}
	if hard < 2 || !decided {
		t.Errorf("hard for %d limits, in the end decided: %t", hard, decided)
	}
	if got := equality(t, a, b, math.MaxInt); got != api.AnswerYes {
		t.Error(got)
	}
	// Three factors that are multiplied in another order need more steps than this.
	if got := equality(t, parse("(mul a:16 (mul b:16 c:16))"), parse("(mul (mul a:16 b:16) c:16)"), 500); got != api.AnswerHard {
		t.Error(got)
	}
}

// TestP6_3WideTerms has terms with more bits than can be tried, and what is known of them. All are decided, although the document does not ask for it.
func TestP6_3WideTerms(t *testing.T) {
	for _, c := range []struct {
		a, b string
		want uint8
	}{
		{"(add a:64 b:64)", "(add b:64 a:64)", api.AnswerYes}, {"(mul a:64 b:64)", "(mul b:64 a:64)", api.AnswerYes}, {"(sub (add a:32 b:32) b:32)", "a:32", api.AnswerYes}, {"(xor (xor a:64 b:64) c:64)", "(xor (xor c:64 b:64) a:64)", api.AnswerYes}, {"(neg a:64)", "(add (not a:64) 64:0000000000000001)", api.AnswerYes},
		{"(mul a:32 32:00000005)", "(add a:32 (shl a:32 32:00000002))", api.AnswerYes}, {"(urem a:16 16:0008)", "(and a:16 16:0007)", api.AnswerYes}, {"(slt a:32 b:32)", "(ult (xor a:32 32:80000000) (xor b:32 32:80000000))", api.AnswerYes}, {"(add (and a:32 b:32) (or a:32 b:32))", "(add a:32 b:32)", api.AnswerYes}, {"(ite (ult a:32 b:32) b:32 a:32)", "(ite (not (ult b:32 a:32)) b:32 a:32)", api.AnswerYes},
		{"(concat (extract 16 16 a:32) (extract 0 16 a:32))", "a:32", api.AnswerYes}, {"(sub (sub (add a:8 b:8) (sub a:8 c:8)) c:8)", "b:8", api.AnswerYes},
		// The circuits of whole products have too many atoms, or are too great.
		{"(sub (extract 0 8 (add c:48 (mul a:48 b:48))) (extract 0 8 c:48))", "(mul (extract 0 8 b:48) (extract 0 8 a:48))", api.AnswerYes}, {"(mul (extract 0 16 a:32) (extract 16 16 a:32))", "(mul (extract 16 16 a:32) (extract 0 16 a:32))", api.AnswerYes}, {"(add (mul a:64 b:64) c:64)", "(add c:64 (mul b:64 a:64))", api.AnswerYes}, {"(mul a:64 b:64)", "(mul a:64 (or a:64 b:64))", api.AnswerNo}, {"(udiv a:64 b:64)", "(udiv b:64 a:64)", api.AnswerNo},
		{"(shr (shl a:32 32:00000001) 32:00000001)", "a:32", api.AnswerNo}, {"(ult a:64 b:64)", "(slt a:64 b:64)", api.AnswerNo}, {"(sar a:64 64:0000000000000007)", "(shr a:64 64:0000000000000007)", api.AnswerNo}, {"(sext 64 a:32)", "(zext 64 a:32)", api.AnswerNo},
		// The values for which these differ cannot be met by chance.
		{"(ult a:64 64:0123456789abcdef)", "(not (ult 64:0123456789abcdee a:64))", api.AnswerYes}, {"(ult a:64 64:0123456789abcdef)", "(ult a:64 64:0123456789abcdf0)", api.AnswerNo}, {"(eq (add a:32 b:32) 32:00000000)", "(and (eq (add a:32 b:32) 32:00000000) (not (eq a:32 32:12345678)))", api.AnswerNo}, {"(ite (eq (sub a:40 b:40) 40:123456789a) (not a:40) a:40)", "a:40", api.AnswerNo},
	} {
		if got := equality(t, parse(c.a), parse(c.b), 5000); got != c.want {
			t.Errorf("%s and %s: %d, not %d", c.a, c.b, got, c.want)
		}
	}
}

// TestP6_3SameCircuits has terms that are decided without a step of the solver, because both have the same circuit.
func TestP6_3SameCircuits(t *testing.T) {
	for _, c := range [][2]string{
		{"(and a:64 b:64)", "(not (or (not a:64) (not b:64)))"}, {"(extract 0 8 (mul a:48 b:48))", "(mul (extract 0 8 b:48) (extract 0 8 a:48))"}, {"(neg a:32)", "(add 32:00000001 (not a:32))"}, {"(shl a:32 32:00000005)", "(concat (extract 0 27 a:32) 5:00)"},
		{"(mul 32:00000005 a:32)", "(add a:32 (shl a:32 32:00000002))"}, {"(mul a:32 32:00000005)", "(add a:32 (shl a:32 32:00000002))"},
	} {
		if got := equality(t, parse(c[0]), parse(c[1]), 0); got != api.AnswerYes {
			t.Errorf("%s and %s: %d", c[0], c[1], got)
		}
	}
}

// TestP6_3TooGreatCircuits has terms of whose circuits nothing can be asked.
func TestP6_3TooGreatCircuits(t *testing.T) {
	for _, x := range []string{"(mul a:48 b:48)", "(mul a:64 b:64)", "(udiv a:64 b:64)", "(urem a:50 b:50)"} {
		x := parse(x)
		w := x.Width
		differs := func(y api.Term) api.Term { return op(api.TermXor, w, x, op(api.TermSext, w, y)) }
		// These differ for one value in 2^40, which is not met by chance.
		if got := equality(t, x, differs(parse("(eq c:40 40:123456789a)")), 5000); got != api.AnswerHard {
			t.Errorf("%s: %d", text(x), got)
		}
		for _, special := range []uint64{0, 1, 1<<w - 1, 1 << (w - 1)} {
			if got := equality(t, x, differs(equal(variable("b", w), number(w, special))), 0); got != api.AnswerNo {
				t.Errorf("%s and what differs for b = %x: %d", text(x), special, got)
			}
		}
	}
}

// TestP6_3GreatTerms has terms of the greatest numbers of nodes and of bits.
func TestP6_3GreatTerms(t *testing.T) {
	var all []api.Term
	for i := range 200 {
		all = append(all, variable("v"+string([]byte{'0' + byte(i/100), '0' + byte(i/10%10), '0' + byte(i%10)}), 64))
	}
	balanced := func(kind uint8, parts []api.Term) api.Term {
		for len(parts) > 1 {
			parts = append(slices.Clone(parts[2:]), op(kind, 64, parts[0], parts[1]))
		}
		return parts[0]
	}
	for kind := api.TermAdd; kind <= api.TermUrem; kind++ {
		x := balanced(kind, all[:100])
		if term.Size(x) != 199 || term.Check(equal(x, x)) != api.OK {
			t.Fatal(term.Size(x))
		}
		if got := equality(t, x, x, 0); got != api.AnswerYes {
			t.Errorf("the same, of the kind %d: %d", kind, got)
		}
		if got := equality(t, x, op(api.TermNot, 64, x), 0); got == api.AnswerYes {
			t.Errorf("the opposite, of the kind %d: %d", kind, got)
		}
		if got := equality(t, x, balanced(kind, all[100:]), 0); got == api.AnswerYes {
			t.Errorf("other variables, of the kind %d: %d", kind, got)
		}
		if got := truth(t, op(api.TermUlt, 1, x, all[0]), 0); got == api.AnswerYes {
			t.Errorf("less, of the kind %d: %d", kind, got)
		}
	}
	a := variable("a", 12)
	if got := equality(t, chain(57, api.TermNot, a), chain(56, api.TermNeg, op(api.TermNot, 12, a)), 0); got != api.AnswerYes {
		t.Error("59 deep:", got)
	}
	if got := equality(t, wide(api.TermAdd, 100, a), op(api.TermMul, 12, a, number(12, 100)), 0); got != api.AnswerYes {
		t.Error("a sum of 100:", got)
	}
}
