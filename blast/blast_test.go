package blast_test

import (
	"slices"
	"strconv"
	"testing"

	"retarget/api"
	"retarget/bits"
	"retarget/blast"
	"retarget/term"
)

// fits fails unless c, the circuit of x, is as P4.3 says, but for the values of its outputs.
func fits(t *testing.T, x api.Term, c api.Circuit) {
	t.Helper()
	if e := blast.Check(c); e != api.OK || !valid(c) {
		t.Fatalf("%s: the circuit is not valid: %d", text(x), e)
	}
	var all []api.CircuitInput
	for _, v := range must(term.Vars(x)) {
		for bit := range v.Width {
			all = append(all, api.CircuitInput{Name: v.Name, Bit: bit})
		}
	}
	if !slices.Equal(c.Inputs, all) {
		t.Fatalf("%s: the inputs %v", text(x), c.Inputs)
	}
	if len(c.Outputs) != x.Width {
		t.Fatalf("%s: %d outputs", text(x), len(c.Outputs))
	}
	if len(c.Gates) > price(x) {
		t.Fatalf("%s: %d gates, its cost is %d", text(x), len(c.Gates), price(x))
	}
}

// agree fails unless c has the value of x, by Inputs and Run as well as by their definitions.
func agree(t *testing.T, x api.Term, c api.Circuit, env []api.Binding) {
	t.Helper()
	want := must(term.Value(x, env, nil))
	if got := result(c, env); got != want {
		t.Fatalf("%s with %v: %x, not %x", text(x), env, got, want)
	}
	var got uint64
	for i, bit := range must(blast.Run(c, must(blast.Inputs(c, env)))) {
		if bit {
			got |= 1 << i
		}
	}
	if got != want {
		t.Fatalf("%s with %v: %x, not %x, by Run", text(x), env, got, want)
	}
}

// ofEach returns terms of each kind with parts of the width: the greatest width of a quotient of which there is a circuit is 50.
func ofEach(w int) []api.Term {
	a, b, f := variable("a", w), variable("b", w), variable("f", 1)
	all := []api.Term{
		a, number(w, 0), number(w, bits.Mask(w)), number(w, 0x5a5a5a5a5a5a5a5a&bits.Mask(w)), op(api.TermNot, w, a), op(api.TermNeg, w, a),
		op(api.TermEq, 1, a, b), op(api.TermUlt, 1, a, b), op(api.TermSlt, 1, a, b), op(api.TermIte, w, f, a, b), op(api.TermIte, 1, f, op(api.TermEq, 1, a, b), variable("g", 1)),
		op(api.TermZext, w, a), op(api.TermSext, w, a), op(api.TermZext, 64, a), op(api.TermSext, 64, a), op(api.TermZext, w, f), op(api.TermSext, w, f), op(api.TermZext, (w+65)/2, a), op(api.TermSext, (w+65)/2, a),
		extract(0, w, a), extract(0, 1, a), extract(w-1, 1, a), extract(w/2, w-w/2, a), extract(0, (w+1)/2, a), extract(w/3, (w+2)/3, a),
	}
	for kind := api.TermAdd; kind <= api.TermUrem; kind++ {
		if v := min(w, 50); kind < api.TermUdiv || w <= 50 {
			all = append(all, op(kind, w, a, b))
		} else {
			all = append(all, op(kind, v, extract(w-v, v, a), extract(0, v, b)))
		}
	}
	for _, low := range []int{1, w / 2, w - 1} {
		if low > 0 && low < w {
			all = append(all, op(api.TermConcat, w, variable("c", w-low), variable("d", low)))
		}
		if low > 0 && w+low <= 64 {
			all = append(all, op(api.TermConcat, w+low, a, variable("d", low)), op(api.TermConcat, w+low, variable("d", low), a))
		}
	}
	return all
}

// few yields bindings of these variables: all pairs of samples of the first two, with some values of the others.
func (m maker) few(vars []api.Binding, yield func([]api.Binding)) {
	env := m.bound(vars)
	switch len(env) {
	case 0:
		yield(nil)
	case 1:
		for _, x := range samples(env[0].Width) {
			env[0].Bits = x
			yield(env)
		}
	default:
		for _, x := range samples(env[0].Width) {
			for _, y := range samples(env[1].Width) {
				env = m.bound(vars)
				env[0].Bits, env[1].Bits = x, y
				yield(env)
			}
		}
	}
}

func TestP4_3BlastOfEachKind(t *testing.T) {
	m := newMaker(4)
	for _, w := range []int{1, 2, 3, 8, 31, 32, 33, 50, 63, 64} {
		seen := map[uint8]bool{}
		for _, x := range ofEach(w) {
			seen[x.Kind] = true
			c := circuit(t, x)
			fits(t, x, c)
			m.few(must(term.Vars(x)), func(env []api.Binding) { agree(t, x, c, env) })
		}
		for kind := api.TermConst; kind < api.TermLoad; kind++ {
			if !seen[kind] && (kind != api.TermConcat || w > 1) {
				t.Errorf("width %d: no term of the kind %d", w, kind)
			}
		}
	}
}

// TestP4_3BlastOfSmallWidths has all values.
func TestP4_3BlastOfSmallWidths(t *testing.T) {
	for w := 1; w <= 4; w++ {
		for _, x := range ofEach(w) {
			vars := must(term.Vars(x))
			c := circuit(t, x)
			assignments(bitsOf(vars), func(in []bool) {
				env, i := slices.Clone(vars), 0
				for k := range env {
					for bit := range env[k].Width {
						if in[i] {
							env[k].Bits |= 1 << bit
						}
						i++
					}
				}
				if got, want := result(c, env), must(term.Value(x, env, nil)); got != want {
					t.Fatalf("%s with %v: %x, not %x", text(x), env, got, want)
				}
			})
		}
	}
}

// TestP4_3BlastOfEachWidth has the operations in all widths, with values by chance.
func TestP4_3BlastOfEachWidth(t *testing.T) {
	m := newMaker(5)
	for w := 1; w <= 64; w++ {
		for kind := api.TermNot; kind <= api.TermSlt; kind++ {
			wide := w
			if kind >= api.TermEq {
				wide = 1
			}
			x := op(kind, wide, variable("a", w), variable("b", w))
			if kind <= api.TermNeg {
				x = op(kind, w, variable("a", w))
			}
			if price(x) > api.MaxGates {
				continue
			}
			c := circuit(t, x)
			fits(t, x, c)
			for range 25 {
				agree(t, x, c, m.bound(must(term.Vars(x))))
			}
		}
	}
}

// TestP4_3BlastOfShiftsAndDivisions has the values at which the operations have rules of their own.
func TestP4_3BlastOfShiftsAndDivisions(t *testing.T) {
	for w := 1; w <= 64; w++ {
		most := bits.Mask(w)
		for kind := api.TermShl; kind <= api.TermUrem; kind++ {
			x := op(kind, w, variable("a", w), variable("b", w))
			if price(x) > api.MaxGates {
				continue
			}
			c := circuit(t, x)
			shifts := []uint64{0, most, most - most>>1}
			if kind <= api.TermSar {
				for k := range w {
					shifts = append(shifts, 1<<k, 1<<k|1)
				}
				for n := w - 2; n <= w+2; n++ {
					shifts = append(shifts, uint64(n))
				}
			}
			for _, by := range shifts {
				for _, from := range []uint64{0, 1, most, most - most>>1, most >> 1, 0x9e3779b97f4a7c15 & most} {
					agree(t, x, c, []api.Binding{{Name: "a", Width: w, Bits: from}, {Name: "b", Width: w, Bits: by & most}})
				}
			}
		}
	}
}

// TestP4_3BlastOfParts has terms with numbers in them, with the same part twice, and within each other.
func TestP4_3BlastOfParts(t *testing.T) {
	m := newMaker(6)
	for _, w := range []int{1, 2, 5, 8, 13} {
		a, b := variable("a", w), variable("b", w)
		for kind := api.TermAdd; kind <= api.TermSlt; kind++ {
			wide := w
			if kind >= api.TermEq {
				wide = 1
			}
			var all []api.Term
			for _, n := range samples(w) {
				all = append(all, op(kind, wide, a, number(w, n)), op(kind, wide, number(w, n), a), op(kind, wide, number(w, n), number(w, bits.Mask(w)-n)))
			}
			all = append(all, op(kind, wide, a, a), op(kind, wide, a, op(api.TermNot, w, a)), op(kind, wide, op(api.TermNeg, w, a), a), op(kind, wide, op(api.TermAdd, w, a, b), op(api.TermAdd, w, b, a)), op(kind, wide, op(api.TermMul, w, a, b), op(api.TermUrem, w, a, b)))
			for _, x := range all {
				c := circuit(t, x)
				fits(t, x, c)
				m.few(must(term.Vars(x)), func(env []api.Binding) { agree(t, x, c, env) })
			}
		}
	}
}

func TestP4_3BlastByChance(t *testing.T) {
	m := newMaker(7)
	seen := map[uint8]int{}
	for range 3000 {
		x := m.cheap([]int{4, 12, 64}[m.IntN(3)])
		seen[x.Kind]++
		c := circuit(t, x)
		fits(t, x, c)
		for range 6 {
			agree(t, x, c, m.bound(must(term.Vars(x))))
		}
	}
	for kind := api.TermConst; kind <= api.TermSext; kind++ {
		if seen[kind] < 10 {
			t.Errorf("the kind %d was seen %d times", kind, seen[kind])
		}
	}
}

// TestP4_3InputsOfAllVariables has variables whose values do not matter.
func TestP4_3InputsOfAllVariables(t *testing.T) {
	for _, s := range []string{
		"(mul a:8 8:00)", "(and 8:00 a:8)", "(or a:8 8:ff)", "(xor a:8 a:8)", "(sub a:8 a:8)", "(eq a:8 a:8)", "(ult a:8 8:00)", "(shl a:8 8:08)", "(udiv a:8 8:00)", "(urem a:8 8:01)",
		"(ite 1:1 a:8 b:8)", "(ite 1:0 a:8 b:8)", "(ite f:1 a:8 a:8)", "(extract 0 1 a:64)", "(extract 63 1 a:64)", "(extract 3 2 (concat a:8 b:8))", "(extract 0 1 (add r.a:8 ra:8))", "(xor Z:3 (xor a:3 Z:3))", "(concat b:1 (concat a:2 (concat r.a:3 B:4)))", "(zext 64 r.x:1)",
	} {
		x := parse(s)
		fits(t, x, circuit(t, x))
	}
	x := parse("(and a:2 b:2)")
	c := circuit(t, x)
	if want := []api.CircuitInput{{Name: "a", Bit: 0}, {Name: "a", Bit: 1}, {Name: "b", Bit: 0}, {Name: "b", Bit: 1}}; !slices.Equal(c.Inputs, want) {
		t.Errorf("the example: %v", c.Inputs)
	}
	env := []api.Binding{{Name: "a", Width: 2, Bits: 3}, {Name: "b", Width: 2, Bits: 2}}
	if out := must(blast.Run(c, must(blast.Inputs(c, env)))); !slices.Equal(out, []bool{false, true}) {
		t.Errorf("the example: %v", out)
	}
}

// costing returns a term of numbers that costs this much.
func costing(cost int) api.Term {
	all := []api.Term{number(1, 0)}
	for cost > 0 {
		w := 64
		for w > 1 && 20*w*w > cost {
			w--
		}
		if 20*w*w <= cost {
			all = append(all, extract(0, 1, op(api.TermMul, w, number(w, 1), number(w, 1))))
			cost -= 20 * w * w
			continue
		}
		w = min(cost, 64)
		all = append(all, extract(0, 1, op(api.TermAnd, w, number(w, 1), number(w, 1))))
		cost -= w
	}
	return joined(api.TermConcat, all...)
}

// TestP4_3Cost has for each kind and width a term whose cost is the greatest one with a circuit, and one that costs 1 more.
func TestP4_3Cost(t *testing.T) {
	for _, w := range []int{1, 2, 3, 8, 31, 49, 50, 63, 64} {
		one, x := number(1, 1), number(w, 1)
		all := []api.Term{x, variable("a", w), op(api.TermIte, w, one, x, x), extract(0, 1, x), op(api.TermZext, w, x), op(api.TermSext, 64, x), op(api.TermZext, 64, x), op(api.TermZext, w, one)}
		if w > 1 {
			all = append(all, op(api.TermConcat, w, one, number(w-1, 1)))
		}
		for kind := api.TermNot; kind <= api.TermSlt; kind++ {
			switch {
			case kind <= api.TermNeg:
				all = append(all, op(kind, w, x))
			case kind >= api.TermEq:
				all = append(all, op(kind, 1, x, x))
			default:
				all = append(all, op(kind, w, x, x))
			}
		}
		for _, x := range all {
			own := price(x)
			if own > api.MaxGates {
				continue
			}
			bit := extract(0, 1, x)
			for more, want := range []api.Errno{api.OK, api.ErrMany, api.ErrMany} {
				y := op(api.TermConcat, 0, bit, costing(api.MaxGates-own+more))
				y.Width = 1 + y.Sub[1].Width
				if term.Check(y) != api.OK || price(y) != api.MaxGates+more {
					t.Fatalf("the test itself is wrong: %d", price(y))
				}
				c, e := blast.Blast(y)
				if e != want || e != api.OK && !same(c, api.Circuit{}) {
					t.Errorf("%s, with %d too many: %d", text(x), more, e)
				}
			}
		}
	}
}

func TestP4_3CostOfOne(t *testing.T) {
	for w := 1; w <= 64; w++ {
		a, b := variable("a", w), variable("b", w)
		for _, kind := range []uint8{api.TermUdiv, api.TermUrem, api.TermMul} {
			want := api.OK
			if kind != api.TermMul && w > 50 {
				want = api.ErrMany
			}
			if c, e := blast.Blast(op(kind, w, a, b)); e != want || e != api.OK && !same(c, api.Circuit{}) {
				t.Errorf("kind %d, width %d: %d", kind, w, e)
			}
		}
	}
	// Each node counts, also one that is the same as another one.
	a := variable("a", 64)
	square := op(api.TermMul, 64, a, a)
	if _, e := blast.Blast(op(api.TermAnd, 64, square, square)); e != api.ErrMany {
		t.Errorf("the same product twice: %d", e)
	}
}

func TestP4_3BitsOfVariables(t *testing.T) {
	var eight, small []api.Term
	for i := range 8 {
		eight = append(eight, variable("v"+strconv.Itoa(i), 64))
	}
	for i := range 100 {
		small = append(small, extract(4, 1, variable("r.s"+strconv.Itoa(i), 5)))
	}
	full, most := joined(api.TermXor, eight...), joined(api.TermXor, small...) // 512 bits, and 500
	bit := func(name string, width int) api.Term { return extract(0, 1, variable(name, width)) }
	for _, c := range []struct {
		what string
		x    api.Term
		e    api.Errno
	}{
		{"512 bits", full, api.OK}, {"513 bits", op(api.TermConcat, 64, extract(0, 63, full), bit("w", 1)), api.ErrMany}, {"576 bits", op(api.TermXor, 64, full, variable("w", 64)), api.ErrMany},
		{"a variable again", op(api.TermXor, 64, full, variable("v3", 64)), api.OK}, {"511 bits of small variables", op(api.TermXor, 1, most, bit("a", 11)), api.OK}, {"512 bits of small variables", op(api.TermXor, 1, most, bit("a", 12)), api.OK}, {"513 bits of small variables", op(api.TermXor, 1, most, bit("a", 13)), api.ErrMany},
		{"513 bits, most of which do not matter", op(api.TermIte, 1, number(1, 1), bit("w", 1), extract(0, 1, full)), api.ErrMany}, {"512 bits that do not matter", op(api.TermMul, 64, full, number(64, 0)), api.OK},
	} {
		got, e := blast.Blast(c.x)
		if e != c.e || e != api.OK && !same(got, api.Circuit{}) {
			t.Errorf("%s: %d", c.what, e)
		}
		if e == api.OK {
			fits(t, c.x, got)
		}
	}
}

func TestP4_3Errors(t *testing.T) {
	a, load := variable("a", 8), op(api.TermLoad, 8, variable("p", 64))
	bad, clash := api.Term{}, op(api.TermConcat, 24, a, variable("a", 16))
	costly := op(api.TermUdiv, 64, variable("p", 64), variable("q", 64))
	var nine []api.Term
	for i := range 9 {
		nine = append(nine, variable("v"+strconv.Itoa(i), 64))
	}
	wide := joined(api.TermXor, nine...)
	var copies []api.Term
	for range 201 {
		copies = append(copies, a)
	}
	large := joined(api.TermAnd, copies...)
	for _, c := range []struct {
		what string
		x    api.Term
		e    api.Errno
	}{
		{"the zero term", bad, api.ErrBad}, {"an unknown kind", op(25, 8, a), api.ErrBad}, {"no value of the width", number(8, 256), api.ErrBad}, {"a part too few", op(api.TermAdd, 8, a), api.ErrBad}, {"other widths", op(api.TermAdd, 9, a, a), api.ErrBad}, {"no name", variable("r.", 8), api.ErrBad},
		{"two widths", clash, api.ErrWidth}, {"too large", large, api.ErrMany}, {"too deep", chain(60, api.TermNot, 8), api.ErrMany}, {"60 deep", chain(59, api.TermNot, 8), api.OK}, {"itself", endless(1), api.ErrMany}, {"itself twice", endless(2), api.ErrMany}, {"a million parts", op(api.TermAdd, 8, make([]api.Term, 1<<20)...), api.ErrMany},
		{"a load", load, api.ErrArg}, {"a load of 64 bits", op(api.TermLoad, 64, a), api.ErrArg}, {"a load below", op(api.TermNot, 8, load), api.ErrArg}, {"a load that does not matter", op(api.TermMul, 8, number(8, 0), load), api.ErrArg}, {"a load that is not chosen", op(api.TermIte, 8, number(1, 1), a, load), api.ErrArg}, {"a load at the end", op(api.TermConcat, 16, a, load), api.ErrArg},
		{"a load, and too costly", op(api.TermConcat, 9, load, extract(0, 1, costly)), api.ErrArg}, {"too costly, and a load", op(api.TermConcat, 9, extract(0, 1, costly), load), api.ErrArg}, {"too many bits, and a load", op(api.TermConcat, 9, extract(0, 1, wide), load), api.ErrArg},
		{"too costly", costly, api.ErrMany}, {"too many bits", wide, api.ErrMany}, {"both", op(api.TermXor, 64, wide, costly), api.ErrMany},
		{"a load, not well-formed", op(api.TermConcat, 17, a, load), api.ErrBad}, {"a load of 9 bits", op(api.TermLoad, 9, a), api.ErrBad}, {"a load, and two widths", op(api.TermConcat, 32, load, clash), api.ErrWidth}, {"a load, and too large", op(api.TermAnd, 8, load, large), api.ErrMany},
		{"too costly, and not well-formed", op(api.TermAdd, 64, costly, bad), api.ErrBad}, {"too costly, and two widths", op(api.TermConcat, 32, extract(0, 8, costly), clash), api.ErrWidth}, {"too many bits, and not well-formed", op(api.TermAdd, 63, wide, wide), api.ErrBad}, {"too many bits, and two widths", op(api.TermXor, 64, wide, op(api.TermZext, 64, variable("v0", 8))), api.ErrWidth},
	} {
		got, e := blast.Blast(c.x)
		if e != c.e || e != api.OK && !same(got, api.Circuit{}) {
			t.Errorf("%s: %d", c.what, e)
		}
	}
}

// spoilCircuit changes all that a circuit has room for.
func spoilCircuit(c api.Circuit) {
	for i := range whole(c.Inputs) {
		whole(c.Inputs)[i] = api.CircuitInput{Name: "spoilt", Bit: -1}
	}
	for i := range whole(c.Gates) {
		whole(c.Gates)[i] = api.CircuitGate{A: -1, B: -1}
	}
	for i := range whole(c.Outputs) {
		whole(c.Outputs)[i] = -1
	}
}

// TestP4_3Memory spoils results: the argument stays as it is, and the next result is the same.
func TestP4_3Memory(t *testing.T) {
	m := newMaker(8)
	for range 1500 {
		kept := m.cheap(12)
		x := copyOf(kept, m.IntN(3))
		c := circuit(t, x)
		want := twin(c)
		spoilCircuit(c)
		if again := circuit(t, x); !same(again, want) {
			t.Fatalf("%s: another circuit", text(kept))
		}
		if !term.Same(x, kept) {
			t.Fatalf("%s was changed", text(kept))
		}
		var look func(n api.Term)
		look = func(n api.Term) {
			for i, beyond := range whole(n.Sub)[len(n.Sub):] {
				if !term.Same(beyond, variable("beyond", 1+i)) {
					t.Fatalf("%s was changed beyond a list", text(kept))
				}
			}
			for _, p := range n.Sub {
				look(p)
			}
		}
		look(x)
	}
}
