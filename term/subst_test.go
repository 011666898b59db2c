package term_test

import (
	"regexp"
	"testing"

	"retarget/api"
	"retarget/term"
)

func TestP2_5Subst(t *testing.T) {
	for _, c := range []struct{ x, name, u, want string }{
		{"a:8", "a", "b:8", "b:8"}, {"a:8", "a", "8:0f", "8:0f"}, {"a:8", "b", "8:0f", "a:8"}, {"8:01", "a", "8:0f", "8:01"},
		{"(add a:8 (mul a:8 b:8))", "a", "(not b:8)", "(add (not b:8) (mul (not b:8) b:8))"}, {"(add a:8 (mul a:8 b:8))", "b", "8:02", "(add a:8 (mul a:8 8:02))"},
		{"(add a:8 b:8)", "a", "(add a:8 8:01)", "(add (add a:8 8:01) b:8)"}, {"(add a:8 b:8)", "a", "b:8", "(add b:8 b:8)"},
		{"(add a:8 r.a:8)", "r.a", "c:8", "(add a:8 c:8)"}, {"(add a:8 r.a:8)", "a", "c:8", "(add c:8 r.a:8)"}, {"(add a:8 A:8)", "A", "c:8", "(add a:8 c:8)"}, {"(add a:8 aa:8)", "a", "c:8", "(add c:8 aa:8)"},
		{"(ite c:1 (load 8 a:16) (extract 3 8 a:16))", "a", "(zext 16 (load 8 b:4))", "(ite c:1 (load 8 (zext 16 (load 8 b:4))) (extract 3 8 (zext 16 (load 8 b:4))))"}, {"(ite c:1 c:1 (eq a:16 a:16))", "c", "(ult a:16 16:0005)", "(ite (ult a:16 16:0005) (ult a:16 16:0005) (eq a:16 a:16))"},
		// The widths of variables that are gone do not count.
		{"(zext 16 a:8)", "a", "(extract 0 8 a:16)", "(zext 16 (extract 0 8 a:16))"}, {"(zext 16 a:8)", "b", "b:64", "(zext 16 a:8)"}, {"(add a:8 b:8)", "c", "a:16", "(add a:8 b:8)"},
		{"a:8", "", "b:9", "a:8"}, {"a:8", "a:8", "b:8", "a:8"}, {"a:8", "not a name", "b:8", "a:8"}, {"8:0f", "8:0f", "b:8", "8:0f"}, {"8:0f", "", "b:8", "8:0f"},
	} {
		y, e := term.Subst(parse(t, c.x), c.name, parse(t, c.u))
		if s, f := term.Text(y); e != api.OK || f != api.OK || s != c.want {
			t.Errorf("%v: %s %d", c, s, e)
		}
	}
}

func TestP2_5SubstErrorsInOrder(t *testing.T) {
	a, bad, clash, large := variable("a", 8), api.Term{}, op(api.TermConcat, 24, variable("a", 8), variable("a", 16)), wide(401)
	deep := func(n int) api.Term { return op(api.TermAdd, 8, chain(n-1), number(8, 1)) }
	for _, c := range []struct {
		what string
		x    api.Term
		name string
		u    api.Term
		e    api.Errno
	}{
		{"the term is not well-formed", bad, "a", large, api.ErrBad}, {"the term is too large", large, "a", bad, api.ErrMany}, {"the term has two widths", clash, "a", bad, api.ErrWidth},
		{"what is put in is not well-formed", a, "a", bad, api.ErrBad}, {"what is put in is too large", a, "a", large, api.ErrMany}, {"what is put in has two widths", a, "a", clash, api.ErrWidth}, {"it is not put in", a, "b", bad, api.ErrBad}, {"it is not put in, and too large", a, "b", endless(2), api.ErrMany}, {"it contains itself", a, "a", endless(1), api.ErrMany}, {"the term contains itself", endless(1), "a", a, api.ErrMany},
		{"another width", a, "a", variable("b", 9), api.ErrWidth}, {"another width, and the result would be too deep", chain(60), "a", op(api.TermZext, 9, variable("b", 8)), api.ErrWidth}, {"another width of what does not occur", a, "b", variable("b", 9), api.OK},
		{"two widths in the result", op(api.TermConcat, 16, a, variable("b", 8)), "a", op(api.TermExtract, 8, variable("b", 9)), api.ErrWidth}, {"two widths, but for the one that is gone", op(api.TermConcat, 16, a, variable("b", 8)), "b", op(api.TermExtract, 8, variable("b", 9)), api.OK},
		{"60 deep", chain(60), "a", a, api.OK}, {"60 deep by two", chain(30), "a", chain(31), api.OK}, {"61 deep", chain(30), "a", chain(32), api.ErrMany}, {"61 deep by one", chain(60), "a", chain(2), api.ErrMany}, {"61 deep, but it does not occur", chain(60), "b", chain(60), api.OK},
		{"60 deep on one side", deep(31), "a", chain(30), api.OK}, {"61 deep on one side", deep(31), "a", chain(31), api.ErrMany},
		{"399 nodes", wide(3), "a", wide(199), api.OK}, {"403 nodes", wide(3), "a", wide(201), api.ErrMany}, {"400 nodes", op(api.TermNot, 8, wide(3)), "a", wide(199), api.OK}, {"401 nodes", wide(3), "a", op(api.TermNot, 8, wide(199)), api.ErrMany}, {"80000 nodes", wide(399), "a", wide(399), api.ErrMany},
		{"too large, and two widths", op(api.TermConcat, 16, wide(201), variable("b", 8)), "a", op(api.TermExtract, 8, op(api.TermZext, 64, op(api.TermZext, 63, variable("b", 9)))), api.ErrMany},
	} {
		y, e := term.Subst(c.x, c.name, c.u)
		if e != c.e {
			t.Errorf("%s: %d", c.what, e)
		}
		if e != api.OK {
			zero(t, y)
		} else if term.Check(y) != api.OK {
			t.Errorf("%s: not valid", c.what)
		}
	}
}

// TestP2_5SubstSharesNoMemory spoils what was put in once, which changes nothing else.
func TestP2_5SubstSharesNoMemory(t *testing.T) {
	x, u := parse(t, "(add (not a:8) (ite (eq a:8 b:8) a:8 (neg b:8)))"), parse(t, "(mul c:8 (not d:8))")
	y, e := term.Subst(x, "a", u)
	if e != api.OK {
		t.Fatal(e)
	}
	seen := map[*api.Term]bool{}
	for _, n := range append(places(&x), places(&u)...) {
		seen[n] = true
	}
	for _, n := range places(&y) {
		if seen[n] {
			t.Fatal("a part is shared")
		}
		seen[n] = true
	}
	shared := op(api.TermNot, 8, variable("a", 8))
	z, e := term.Subst(op(api.TermAdd, 8, shared, shared), "b", u)
	if e != api.OK || &z.Sub[0].Sub[0] == &z.Sub[1].Sub[0] || &z.Sub[0].Sub[0] == &shared.Sub[0] {
		t.Error("a part that was shared before is shared")
	}
}

func TestP2_7SubstIsBinding(t *testing.T) {
	m := newMaker(8)
	done := 0
	for range 4000 {
		x := m.term(m.width(), 1+m.IntN(5))
		vars, e := term.Vars(x)
		if e != api.OK || len(vars) == 0 {
			continue
		}
		v := vars[m.IntN(len(vars))]
		u := m.term(v.Width, 1+m.IntN(3))
		y, e := term.Subst(x, v.Name, u)
		if e != api.OK {
			if e != api.ErrMany {
				t.Fatal(x, v, u, e)
			}
			continue
		}
		done++
		both, e := term.Vars(op(api.TermEq, 1, op(api.TermEq, 1, x, x), op(api.TermEq, 1, u, u)))
		if e != api.OK {
			continue
		}
		env, mem := m.bound(both), m.memory()
		want := must(term.Value(y, env, mem))
		for i := range env {
			if env[i].Name == v.Name {
				env[i].Bits = must(term.Value(u, append([]api.Binding{}, env...), mem))
			}
		}
		if got := must(term.Value(x, env, mem)); got != want {
			t.Fatalf("%v %v %v: %x %x", x, v, u, got, want)
		}
	}
	if done < 1000 {
		t.Error(done)
	}
}

// TestP2_5SubstIsInText puts the one text into the other.
func TestP2_5SubstIsInText(t *testing.T) {
	m, words := newMaker(9), regexp.MustCompile("[^ ()]+")
	for range 3000 {
		x, u := m.valid(), m.term(8, 1+m.IntN(2))
		s, _ := term.Text(x)
		text, _ := term.Text(u)
		want := words.ReplaceAllStringFunc(s, func(word string) string {
			if word == "a8:8" {
				return text
			}
			return word
		})
		y, e := term.Subst(x, "a8", u)
		if got, f := term.Text(y); e == api.OK && (f != api.OK || got != want) || e != api.OK && e != api.ErrMany {
			t.Fatalf("%s with %s: %s, not %s", s, text, got, want)
		}
	}
}
