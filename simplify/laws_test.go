package simplify_test

import (
	"slices"
	"strconv"
	"testing"

	"retarget/api"
	"retarget/bits"
	"retarget/term"
)

// few returns terms of the width without or with few parts: all constants, two variables, and some that have a rule in common with others.
func few(width int) []api.Term {
	a, b := variable("a"+strconv.Itoa(width), width), variable("b"+strconv.Itoa(width), width)
	all := []api.Term{a, b, op(api.TermNot, width, a), op(api.TermNeg, width, b), extract(1, width, variable("c", 5)), op(api.TermZext, width, variable("d", 1)), op(api.TermSext, width, variable("d", 1))}
	for x := range bits.Mask(width) + 1 {
		all = append(all, number(width, x))
	}
	return all
}

// small yields each term of the width with parts of few.
func small(width int, yield func(api.Term)) {
	for _, x := range few(width) {
		yield(op(api.TermNot, width, x))
		yield(op(api.TermNeg, width, x))
		for low := range width {
			for many := 1; low+many <= width; many++ {
				yield(extract(low, many, x))
			}
		}
		for to := width; to <= width+2; to++ {
			yield(op(api.TermZext, to, x))
			yield(op(api.TermSext, to, x))
		}
		for _, y := range few(width) {
			for kind := api.TermAdd; kind <= api.TermUrem; kind++ {
				yield(op(kind, width, x, y))
			}
			for kind := api.TermEq; kind <= api.TermSlt; kind++ {
				yield(op(kind, 1, x, y))
			}
			for _, c := range []api.Term{number(1, 0), number(1, 1), variable("e", 1)} {
				yield(op(api.TermIte, width, c, x, y))
			}
		}
		for low := 1; low <= 3; low++ {
			for _, y := range few(low) {
				yield(op(api.TermConcat, width+low, x, y))
			}
		}
	}
}

// bindings yields all bindings of these variables.
func bindings(vars []api.Binding, yield func([]api.Binding)) {
	env := slices.Clone(vars)
	var bind func(i int)
	bind = func(i int) {
		if i == len(env) {
			yield(env)
			return
		}
		for x := range bits.Mask(env[i].Width) + 1 {
			env[i].Bits = x
			bind(i + 1)
		}
	}
	bind(0)
}

// TestP3SmallTerms has all small terms, and all values of their variables.
func TestP3SmallTerms(t *testing.T) {
	for width := 1; width <= 3; width++ {
		small(width, func(x api.Term) {
			y, want := simple(x), reference(x)
			if !term.Same(y, want) || y.Width != x.Width {
				t.Errorf("%s becomes %s, not %s", text(x), text(y), text(want))
			}
			vars := must(term.Vars(x))
			if !term.Same(x, y) && len(vars) <= 2 {
				bindings(vars, func(env []api.Binding) {
					if a, b := must(term.Value(x, env, nil)), must(term.Value(y, env, nil)); a != b {
						t.Fatalf("%s becomes %s, with another value of %v: %x, not %x", text(x), text(y), env, b, a)
					}
				})
			}
			lawful(t, x, y)
		})
	}
}

// TestP3_2Values has terms by chance with bindings and memory by chance.
func TestP3_2Values(t *testing.T) {
	m := newMaker(2)
	different := 0
	for range 10000 {
		x := m.valid()
		y := simple(x)
		if y.Width != x.Width {
			t.Fatalf("%s becomes %s", text(x), text(y))
		}
		if !term.Same(x, y) {
			different++
		}
		for range 6 {
			env, mem := m.bound(must(term.Vars(x))), m.memory()
			want := must(term.Value(x, env, mem))
			if got := must(term.Value(y, env, mem)); got != want {
				t.Fatalf("%s becomes %s, with another value: %x, not %x", text(x), text(y), got, want)
			}
		}
	}
	if different < 3000 {
		t.Error(different)
	}
}

// TestP3_2ValuesOfGreatWidths has the operations in the widths in which something may go wrong.
func TestP3_2ValuesOfGreatWidths(t *testing.T) {
	m := newMaker(3)
	for w := 1; w <= 64; w++ {
		for kind := api.TermNot; kind <= api.TermSlt; kind++ {
			wide := w
			if kind >= api.TermEq {
				wide = 1
			}
			for range 20 {
				x, y := m.pair(w, 2)
				s := op(kind, wide, x, y)
				if kind <= api.TermNeg {
					s = op(kind, wide, x)
				}
				env, mem := m.bound(must(term.Vars(s))), m.memory()
				if a, b := must(term.Value(s, env, mem)), must(term.Value(simple(s), env, mem)); a != b {
					t.Fatalf("%s becomes %s, with another value: %x, not %x", text(s), text(simple(s)), b, a)
				}
			}
		}
	}
}

// lawful fails unless y, which x becomes, is as P3.3 says.
func lawful(t *testing.T, x, y api.Term) {
	t.Helper()
	if e := term.Check(y); e != api.OK {
		t.Fatalf("%s becomes what is not valid: %v %d", text(x), y, e)
	}
	if term.Size(y) > term.Size(x) || term.Depth(y) > term.Depth(x) {
		t.Errorf("%s becomes %s, which is larger or deeper", text(x), text(y))
	}
	vars := must(term.Vars(x))
	for _, v := range must(term.Vars(y)) {
		if !slices.Contains(vars, v) {
			t.Errorf("%s becomes %s, with another variable", text(x), text(y))
		}
	}
	if term.Pure(x) && !term.Pure(y) {
		t.Errorf("%s becomes %s, with a load", text(x), text(y))
	}
	if z := simple(y); !term.Same(z, y) {
		t.Errorf("%s becomes %s, and that becomes %s", text(x), text(y), text(z))
	}
	if len(vars) == 0 && term.Pure(x) && y.Kind != api.TermConst {
		t.Errorf("%s becomes %s", text(x), text(y))
	}
}

func TestP3_3Lawful(t *testing.T) {
	m := newMaker(4)
	for range 15000 {
		x := m.valid()
		lawful(t, x, simple(x))
	}
}

// unbound returns t with numbers in place of its variables.
func (m maker) unbound(t api.Term) api.Term {
	if t.Kind == api.TermVar {
		return number(t.Width, m.bits(t.Width))
	}
	t.Sub = slices.Clone(t.Sub)
	for i, p := range t.Sub {
		t.Sub[i] = m.unbound(p)
	}
	return t
}

// TestP3_3WithoutVariables has terms that become the TermConst of their value.
func TestP3_3WithoutVariables(t *testing.T) {
	m := newMaker(5)
	seen := map[uint8]int{}
	for range 8000 {
		x := m.unbound(m.valid())
		y := simple(x)
		lawful(t, x, y)
		if term.Pure(x) {
			seen[x.Kind]++
			if want := number(x.Width, must(term.Value(x, nil, nil))); !term.Same(y, want) {
				t.Fatalf("%s becomes %s, not %s", text(x), text(y), text(want))
			}
		}
	}
	for kind := api.TermNot; kind <= api.TermSext; kind++ {
		if seen[kind] < 10 {
			t.Errorf("the kind %d was seen %d times", kind, seen[kind])
		}
	}
}

// TestP3_3GreatTerms has terms of the greatest size and depth.
func TestP3_3GreatTerms(t *testing.T) {
	a, x := variable("a", 8), number(8, 3)
	for _, c := range []struct {
		what string
		x    api.Term
		want string
	}{
		{"60 deep, even", chain(58, api.TermNot, 8), "a:8"}, {"60 deep, odd", chain(59, api.TermNeg, 8), "(neg a:8)"}, {"399 zeros", wide(200, number(8, 0)), "8:00"}, {"399 numbers", wide(200, x), "8:58"},
		{"400 nodes", op(api.TermNot, 8, wide(200, number(8, 0))), "8:ff"}, {"399 nodes that are 0 but one", op(api.TermAdd, 8, wide(199, number(8, 0)), a), "a:8"},
	} {
		y := simple(c.x)
		if text(y) != c.want {
			t.Errorf("%s: %s", c.what, text(y))
		}
		lawful(t, c.x, y)
	}
	if s := op(api.TermNot, 8, wide(200, a)); !term.Same(simple(s), s) || term.Size(s) != 400 {
		t.Error("400 nodes that stay as they are")
	}
	if s := chain(59, api.TermNot, 8); term.Check(s) != api.OK || term.Depth(s) != 60 {
		t.Error("60 deep")
	}
}
