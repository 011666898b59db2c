package simplify_test

import (
	"testing"

	"retarget/api"
	"retarget/simplify"
	"retarget/term"
)

func TestP3_1ErrorsInOrder(t *testing.T) {
	a, bad, clash := variable("a", 8), api.Term{}, op(api.TermConcat, 24, variable("a", 8), variable("a", 16))
	for _, c := range []struct {
		what string
		x    api.Term
		e    api.Errno
	}{
		{"the zero term", bad, api.ErrBad}, {"no value of the width", number(8, 256), api.ErrBad}, {"no width", number(0, 0), api.ErrBad}, {"width 65", variable("a", 65), api.ErrBad}, {"no name", variable("9", 8), api.ErrBad}, {"unknown kind", op(25, 8, a), api.ErrBad}, {"kind 255", op(255, 8), api.ErrBad},
		{"a part too few", op(api.TermAdd, 8, a), api.ErrBad}, {"a part too many", op(api.TermAdd, 8, a, a, a), api.ErrBad}, {"no parts", op(api.TermIte, 8), api.ErrBad}, {"parts of a constant", op(api.TermConst, 8, a), api.ErrBad},
		{"another width of a part", op(api.TermAdd, 8, a, number(9, 0)), api.ErrBad}, {"a comparison of the width 8", op(api.TermEq, 8, a, a), api.ErrBad}, {"an extract from too high", extract(1, 8, a), api.ErrBad}, {"an extract from too low", extract(-1, 8, a), api.ErrBad}, {"a load of 9 bits", op(api.TermLoad, 9, a), api.ErrBad}, {"Low of a sum", api.Term{Kind: api.TermAdd, Width: 8, Low: 1, Sub: []api.Term{a, a}}, api.ErrBad},
		{"a part that a rule drops", op(api.TermMul, 8, number(8, 0), number(8, 256)), api.ErrBad}, {"a part that is not chosen", op(api.TermIte, 8, number(1, 1), a, bad), api.ErrBad},
		{"two widths", clash, api.ErrWidth}, {"two widths in parts that a rule drops", op(api.TermZext, 32, op(api.TermMul, 24, clash, number(24, 0))), api.ErrWidth}, {"two widths in parts that are not chosen", op(api.TermIte, 8, number(1, 0), op(api.TermExtract, 8, variable("a", 9)), a), api.ErrWidth},
		{"not well-formed, and two widths", op(api.TermAdd, 24, clash, bad), api.ErrBad}, {"two widths, and no name", op(api.TermAdd, 24, clash, variable("", 24)), api.ErrBad},
		{"too large", wide(201, a), api.ErrMany}, {"too large, and 0", wide(201, number(8, 0)), api.ErrMany}, {"too deep", chain(60, api.TermNot, 8), api.ErrMany}, {"too large, and not well-formed", wide(201, bad), api.ErrMany}, {"too deep, and not well-formed", op(0, 0, chain(59, api.TermNot, 8)), api.ErrMany}, {"too large, and two widths", op(api.TermConcat, 32, op(api.TermSext, 24, wide(200, a)), clash), api.ErrMany},
		{"401 parts", op(api.TermAdd, 8, make([]api.Term, 400)...), api.ErrMany}, {"itself", endless(1), api.ErrMany}, {"itself twice", endless(2), api.ErrMany}, {"a million parts", op(api.TermAdd, 8, make([]api.Term, 1<<20)...), api.ErrMany},
	} {
		y, e := simplify.Term(c.x)
		if e != c.e || e != term.Check(c.x) {
			t.Errorf("%s: %d", c.what, e)
		}
		zero(t, y)
	}
}

// TestP3_1Memory spoils results, which changes no argument, and has lists with room for more, which is not changed either.
func TestP3_1Memory(t *testing.T) {
	m := newMaker(6)
	for range 6000 {
		kept := m.valid()
		x := copyOf(kept, m.IntN(3))
		y := simple(x)
		want := text(y)
		seen := map[*api.Term]bool{}
		for _, n := range rooms(&x) {
			seen[n] = true
		}
		for _, n := range rooms(&y) {
			if seen[n] {
				t.Fatalf("%s: memory is shared", text(kept))
			}
			seen[n] = true
			*n = api.Term{Name: "spoilt"}
		}
		if !term.Same(x, kept) {
			t.Fatalf("%s was changed", text(kept))
		}
		for _, n := range places(&x) {
			for i, beyond := range n.Sub[len(n.Sub):cap(n.Sub)] {
				if !term.Same(beyond, variable("beyond", 1+i)) {
					t.Fatalf("%s was changed beyond a list", text(kept))
				}
			}
		}
		if again := simple(x); text(again) != want {
			t.Fatalf("%s becomes %s, and then %s", text(kept), want, text(again))
		}
	}
}

// TestP3_1SharedParts has terms whose parts share memory, which their results do not.
func TestP3_1SharedParts(t *testing.T) {
	part := parse("(not (add a:8 (load 8 b:8)))")
	x := op(api.TermIte, 8, variable("c", 1), op(api.TermAdd, 8, part, part), op(api.TermMul, 8, part, part))
	y := simple(x)
	if !term.Same(y, x) {
		t.Error(text(y))
	}
	seen := map[*api.Term]bool{&part.Sub[0]: true}
	for _, n := range rooms(&y) {
		if seen[n] {
			t.Fatal("two parts share memory")
		}
		seen[n] = true
	}
}
