package prove_test

import (
	"slices"
	"testing"

	"retarget/api"
	"retarget/blast"
	"retarget/prove"
	"retarget/simplify"
	"retarget/term"
)

// TestP6_4Equivalence has the same terms, terms in both orders, and terms that equal a third one.
func TestP6_4Equivalence(t *testing.T) {
	for _, widths := range [][]int{{3, 2, 2}, {40, 33, 9}} {
		m := newMaker(50, widths...)
		equals := 0
		for range 400 {
			a := m.term(1+m.IntN(8), m.IntN(3))
			b := m.changed(a)
			c := m.changed(b)
			if term.Check(equal(a, a)) != api.OK || term.Check(equal(a, b)) != api.OK || term.Check(equal(b, c)) != api.OK || term.Check(equal(a, c)) != api.OK {
				continue
			}
			if got := equality(t, a, a, 0); got != api.AnswerYes {
				t.Errorf("%s and itself: %d", text(a), got)
			}
			ab, bc, ac := equality(t, a, b, 100), equality(t, b, c, 100), equality(t, a, c, 100)
			if ab == api.AnswerYes && bc == api.AnswerYes && ac == api.AnswerNo || ab == api.AnswerYes && bc == api.AnswerNo && ac == api.AnswerYes || ab == api.AnswerNo && bc == api.AnswerYes && ac == api.AnswerYes {
				t.Fatalf("%s, %s and %s: %d %d %d", text(a), text(b), text(c), ab, bc, ac)
			}
			if ab == api.AnswerYes && bc == api.AnswerYes {
				equals++
			}
		}
		if equals < 50 {
			t.Error(widths, equals)
		}
	}
}

// TestP6_4BothOrders holds the answers for both orders of the arguments against each other, also where terms may be hard.
func TestP6_4BothOrders(t *testing.T) {
	m := newMaker(51, 30, 20, 6)
	for range 500 {
		a, b := m.pair()
		limit := m.IntN(50)
		v, w := must(prove.Equal(a, b, limit)), must(prove.Equal(b, a, limit))
		if v.Answer != w.Answer {
			t.Errorf("%s and %s: %d and %d", text(a), text(b), v.Answer, w.Answer)
		}
	}
}

func TestP6_4Substitution(t *testing.T) {
	for i, widths := range [][]int{{2, 4, 1, 3}, {5, 21, 3, 12}} {
		m := newMaker(52+uint64(i), widths...)
		kept := 0
		for range 600 {
			a, b := m.pair()
			if equality(t, a, b, 100) != api.AnswerYes {
				continue
			}
			v := m.vars[m.IntN(len(m.vars))]
			u := m.term(v.Width, m.IntN(3))
			x, e := term.Subst(a, v.Name, u)
			y, f := term.Subst(b, v.Name, u)
			if e != api.OK || f != api.OK || term.Check(equal(x, y)) != api.OK {
				continue
			}
			if got := equality(t, x, y, 100); got == api.AnswerNo || got == api.AnswerHard && widthOf(m.vars) <= api.ProveSure {
				t.Fatalf("%s equals %s, but %s and %s: %d", text(a), text(b), text(x), text(y), got)
			}
			kept++
		}
		if kept < 100 {
			t.Error(widths, kept)
		}
	}
}

// TestP6_4Simplified has terms of few and of many bits: none is hard, although with many bits the document would allow for it.
func TestP6_4Simplified(t *testing.T) {
	for i, widths := range [][]int{{4, 4, 1, 3}, {64, 21, 1, 12}} {
		m := newMaker(54+uint64(i), widths...)
		changed := 0
		for range 1000 {
			x := m.term(m.width(), m.IntN(4))
			y, e := simplify.Term(x)
			if e != api.OK || term.Check(equal(x, y)) != api.OK {
				continue
			}
			if got := equality(t, x, y, 0); got != api.AnswerYes {
				t.Fatalf("%s and %s: %d", text(x), text(y), got)
			}
			if !term.Same(x, y) {
				changed++
			}
		}
		if changed < 150 {
			t.Error(widths, changed)
		}
	}
}

// TestN1Circuit has circuits of the equality of terms: if the terms are equal, no values make them false.
func TestN1Circuit(t *testing.T) {
	m := newMaker(56, 3, 4, 1)
	for range 300 {
		a, b := m.pair()
		c, e := blast.Blast(equal(a, b))
		if e != api.OK {
			continue
		}
		always := true
		for env := range bindings(must(term.Vars(equal(a, b)))) {
			always = always && must(blast.Run(c, must(blast.Inputs(c, env))))[0]
		}
		if got := equality(t, a, b, 0); (got == api.AnswerYes) != always {
			t.Fatalf("%s and %s: %d, but the circuit is always true: %t", text(a), text(b), got, always)
		}
	}
}

// whole returns all nodes of a term, and all that its lists have room for.
func whole(t *api.Term) []*api.Term {
	var all []*api.Term
	for _, n := range nodesOf(t) {
		for i := range n.Sub[:cap(n.Sub)] {
			all = append(all, &n.Sub[:cap(n.Sub)][i])
		}
	}
	return all
}

// TestR2Memory has lists with room for more, which is not changed either, and spoils examples.
func TestR2Memory(t *testing.T) {
	for i, widths := range [][]int{{3, 4, 1}, {30, 20, 6}} {
		m := newMaker(57+uint64(i), widths...)
		for range 400 {
			a, b := m.pair()
			x, y := copyOf(a, m.IntN(3)), copyOf(b, m.IntN(3))
			beforeX, beforeY := copyOfAll(&x), copyOfAll(&y)
			v := must(prove.Equal(x, y, 20))
			w := must(prove.True(equal(x, y), 20))
			if v.Answer != w.Answer || !slices.Equal(v.Example, w.Example) {
				t.Fatalf("%s and %s: %v by Equal, and %v by True", text(a), text(b), v, w)
			}
			for i := range v.Example[:cap(v.Example)] {
				v.Example[:cap(v.Example)][i] = api.Binding{Name: "spoilt"}
			}
			again := must(prove.Equal(x, y, 20))
			if again.Answer != w.Answer || !slices.Equal(again.Example, w.Example) {
				t.Fatalf("%s and %s: %v, and then %v", text(a), text(b), w, again)
			}
			if !sameAll(&x, beforeX) || !sameAll(&y, beforeY) || !term.Same(x, a) || !term.Same(y, b) {
				t.Fatalf("%s and %s were changed", text(a), text(b))
			}
		}
	}
}

// copyOfAll copies all of whole, but for the lists in it.
func copyOfAll(t *api.Term) []api.Term {
	var all []api.Term
	for _, n := range whole(t) {
		all = append(all, api.Term{Kind: n.Kind, Width: n.Width, Bits: n.Bits, Name: n.Name, Low: n.Low})
	}
	return all
}

func sameAll(t *api.Term, before []api.Term) bool {
	return slices.EqualFunc(copyOfAll(t), before, term.Same)
}

// TestR2SharedParts has arguments that share parts with each other and in themselves.
func TestR2SharedParts(t *testing.T) {
	for _, w := range []int{5, 40} {
		part := op(api.TermAdd, w, variable("b", w), op(api.TermNot, w, variable("a", w)))
		a := op(api.TermSub, w, part, op(api.TermMul, w, part, part))
		b := op(api.TermAdd, w, op(api.TermNeg, w, op(api.TermMul, w, part, part)), a.Sub[0])
		c := api.Term{Kind: api.TermXor, Width: w, Sub: a.Sub}
		kept := []api.Term{copyOf(a, 0), copyOf(b, 0), copyOf(c, 0)}
		if got := equality(t, a, b, 5000); got == api.AnswerNo || got == api.AnswerHard && w == 5 {
			t.Errorf("%s and %s: %d", text(a), text(b), got)
		}
		if got := equality(t, a, c, 100); got != api.AnswerNo {
			t.Errorf("%s and %s: %d", text(a), text(c), got)
		}
		if !slices.EqualFunc([]api.Term{a, b, c}, kept, term.Same) {
			t.Errorf("one of %v was changed", kept)
		}
	}
}
