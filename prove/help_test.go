package prove_test

import (
	"iter"
	"math/rand/v2"
	"slices"
	"testing"

	"retarget/api"
	"retarget/bits"
	"retarget/blast"
	"retarget/prove"
	"retarget/term"
)

// number, variable, op and extract make terms.
func number(width int, x uint64) api.Term {
	return api.Term{Kind: api.TermConst, Width: width, Bits: x}
}

func variable(name string, width int) api.Term {
	return api.Term{Kind: api.TermVar, Width: width, Name: name}
}

func op(kind uint8, width int, parts ...api.Term) api.Term {
	return api.Term{Kind: kind, Width: width, Sub: parts}
}

func extract(low, width int, x api.Term) api.Term {
	return api.Term{Kind: api.TermExtract, Width: width, Low: low, Sub: []api.Term{x}}
}

func equal(a, b api.Term) api.Term { return op(api.TermEq, 1, a, b) }

// must returns a value that comes without an error.
func must[T any](x T, e api.Errno) T {
	if e != api.OK {
		panic(e)
	}
	return x
}

func parse(s string) api.Term {
	t, e := term.Parse(s)
	if e != api.OK {
		panic(s)
	}
	return t
}

func text(t api.Term) string { return must(term.Text(t)) }

// chain returns a term within this many terms of a kind.
func chain(many int, kind uint8, t api.Term) api.Term {
	for range many {
		t = op(kind, t.Width, t)
	}
	return t
}

// wide returns an operation on this many times the same leaf, none of them deeper than 10.
func wide(kind uint8, leaves int, leaf api.Term) api.Term {
	if leaves == 1 {
		return leaf
	}
	return op(kind, leaf.Width, wide(kind, leaves/2, leaf), wide(kind, leaves-leaves/2, leaf))
}

// endless returns a term with many times itself as its parts.
func endless(many int) api.Term {
	parts := make([]api.Term, many)
	t := op(api.TermAdd, 8, parts...)
	for i := range parts {
		parts[i] = t
	}
	return t
}

// copyOf copies a term, with this many further terms between the length and the capacity of each list.
func copyOf(t api.Term, room int) api.Term {
	parts := make([]api.Term, 0, len(t.Sub)+room)
	for _, p := range t.Sub {
		parts = append(parts, copyOf(p, room))
	}
	for i := range room {
		parts[:cap(parts)][len(parts)+i] = variable("beyond", 1+i)
	}
	t.Sub = parts
	return t
}

// nodesOf returns the places of all nodes of a term.
func nodesOf(t *api.Term) []*api.Term {
	all := []*api.Term{t}
	for i := range t.Sub {
		all = append(all, nodesOf(&t.Sub[i])...)
	}
	return all
}

// hasLoad reports whether a term is not pure.
func hasLoad(t api.Term) bool { return t.Kind == api.TermLoad || slices.ContainsFunc(t.Sub, hasLoad) }

func widthOf(vars []api.Binding) int {
	sum := 0
	for _, v := range vars {
		sum += v.Width
	}
	return sum
}

// bindings yields all bindings of these variables.
func bindings(vars []api.Binding) iter.Seq[[]api.Binding] {
	return func(yield func([]api.Binding) bool) {
		env := slices.Clone(vars)
		var bind func(i int) bool
		bind = func(i int) bool {
			if i == len(env) {
				return yield(env)
			}
			for x := range bits.Mask(env[i].Width) + 1 {
				env[i].Bits = x
				if !bind(i + 1) {
					return false
				}
			}
			return true
		}
		bind(0)
	}
}

// value returns the value of a pure term.
func value(t api.Term, env []api.Binding) uint64 { return must(term.Value(t, env, nil)) }

// answer returns what Equal has to answer for terms of which all values can be tried.
func answer(a, b api.Term) uint8 {
	for env := range bindings(must(term.Vars(equal(a, b)))) {
		if value(a, env) != value(b, env) {
			return api.AnswerNo
		}
	}
	return api.AnswerYes
}

// binds fails unless an example binds exactly these variables.
func binds(t *testing.T, what string, example, vars []api.Binding) {
	t.Helper()
	if e := term.CheckBound(example); e != api.OK || len(example) != len(vars) {
		t.Fatalf("%s: the example %v", what, example)
	}
	for i, b := range example {
		if b.Name != vars[i].Name || b.Width != vars[i].Width || !bits.Ok(b.Width, b.Bits) {
			t.Fatalf("%s: the example %v", what, example)
		}
	}
}

// against fails unless the circuit of a term, if it has one, is false for an example.
func against(t *testing.T, x api.Term, example []api.Binding) {
	t.Helper()
	c, e := blast.Blast(x)
	if e != api.OK {
		return
	}
	if out := must(blast.Run(c, must(blast.Inputs(c, example)))); out[0] {
		t.Fatalf("%s: its circuit is true for %v", text(x), example)
	}
}

// fits fails unless a verdict about a term of the width 1 is one that may be given, as far as no other values than those of its example are tried.
func fits(t *testing.T, x api.Term, v api.Verdict) {
	t.Helper()
	vars := must(term.Vars(x))
	switch {
	case v.Answer == api.AnswerNo:
		binds(t, text(x), v.Example, vars)
		if value(x, v.Example) != 0 {
			t.Fatalf("%s: 1 for the example %v", text(x), v.Example)
		}
		against(t, x, v.Example)
	case len(v.Example) > 0:
		t.Fatalf("%s: the answer %d and the example %v", text(x), v.Answer, v.Example)
	case v.Answer != api.AnswerYes && (v.Answer != api.AnswerHard || widthOf(vars) <= api.ProveSure):
		t.Fatalf("%s: the answer %d", text(x), v.Answer)
	}
}

// truth returns the answer of True, whose verdict has to fit.
func truth(t *testing.T, x api.Term, limit int) uint8 {
	t.Helper()
	v, e := prove.True(x, limit)
	if e != api.OK {
		t.Fatalf("%s: %d", text(x), e)
	}
	fits(t, x, v)
	return v.Answer
}

// equality returns the answer of Equal, whose verdicts have to fit for both orders of the terms, and must not be Yes for one and No for the other.
func equality(t *testing.T, a, b api.Term, limit int) uint8 {
	t.Helper()
	v, e := prove.Equal(a, b, limit)
	w, f := prove.Equal(b, a, limit)
	if e != api.OK || f != api.OK {
		t.Fatalf("%s and %s: %d %d", text(a), text(b), e, f)
	}
	fits(t, equal(a, b), v)
	fits(t, equal(b, a), w)
	if v.Answer == api.AnswerNo && value(a, v.Example) == value(b, v.Example) {
		t.Fatalf("%s and %s: no difference for %v", text(a), text(b), v.Example)
	}
	if v.Answer != w.Answer && v.Answer != api.AnswerHard && w.Answer != api.AnswerHard {
		t.Fatalf("%s and %s: %d, and %d for the other order", text(a), text(b), v.Answer, w.Answer)
	}
	return v.Answer
}

// decided returns the answer of Equal for terms of which all values can be tried. It has to be right.
func decided(t *testing.T, a, b api.Term, limit int) uint8 {
	t.Helper()
	got := equality(t, a, b, limit)
	if want := answer(a, b); got != want && (got != api.AnswerHard || widthOf(must(term.Vars(equal(a, b)))) <= api.ProveSure) {
		t.Fatalf("%s and %s: %d, not %d", text(a), text(b), got, want)
	}
	return got
}

// decidedTrue is the same for True.
func decidedTrue(t *testing.T, x api.Term, limit int) uint8 {
	t.Helper()
	got := truth(t, x, limit)
	if want := answer(x, number(1, 1)); got != want {
		t.Fatalf("%s: %d, not %d", text(x), got, want)
	}
	return got
}

// atLeast fails unless there were this many of both answers.
func atLeast(t *testing.T, counts map[uint8]int, yes, no int) {
	t.Helper()
	if counts[api.AnswerYes] < yes || counts[api.AnswerNo] < no {
		t.Error(counts)
	}
}

// A maker makes pure terms of its variables by chance, always the same ones.
type maker struct {
	*rand.Rand
	vars []api.Binding
}

// newMaker has variables of these widths.
func newMaker(seed uint64, widths ...int) maker {
	m := maker{Rand: rand.New(rand.NewPCG(seed, 6))}
	for i, w := range widths {
		m.vars = append(m.vars, api.Binding{Name: []string{"B", "a", "r.a", "z_9"}[i], Width: w})
	}
	return m
}

func (m maker) bits(width int) uint64 {
	w := uint64(width)
	some := []uint64{0, 1, 2, w - 1, w, 1 << (w - 1), bits.Mask(width), m.Uint64(), m.Uint64()}
	return some[m.IntN(len(some))] & bits.Mask(width)
}

func (m maker) width() int {
	if m.IntN(5) == 0 {
		return 1 + m.IntN(64)
	}
	return 1 + m.IntN(8)
}

// fitted returns t, or a part of it, or t with bits above it, so that it has the width.
func (m maker) fitted(t api.Term, width int) api.Term {
	switch {
	case t.Width > width:
		return extract(m.IntN(t.Width-width+1), width, t)
	case t.Width < width:
		return op(api.TermZext+uint8(m.IntN(2)), width, t)
	}
	return t
}

func (m maker) leaf(width int) api.Term {
	if m.IntN(4) == 0 {
		return number(width, m.bits(width))
	}
	v := m.vars[m.IntN(len(m.vars))]
	return m.fitted(variable(v.Name, v.Width), width)
}

// term returns a valid term of the width, of at most this depth above its leaves.
func (m maker) term(width, depth int) api.Term {
	if depth == 0 || m.IntN(9) == 0 {
		return m.leaf(width)
	}
	of := func(width int) api.Term { return m.term(width, depth-1) }
	switch m.IntN(9) {
	case 0:
		return op(api.TermNot+uint8(m.IntN(2)), width, of(width))
	case 1:
		if width == 1 {
			w := m.width()
			return op(api.TermEq+uint8(m.IntN(3)), 1, of(w), of(w))
		}
		low := 1 + m.IntN(width-1)
		return op(api.TermConcat, width, of(width-low), of(low))
	case 2:
		return op(api.TermIte, width, of(1), of(width), of(width))
	case 3:
		return m.fitted(of(min(64, width+m.IntN(4))), width)
	case 4:
		return m.fitted(of(1+m.IntN(width)), width)
	}
	return op(api.TermAdd+uint8(m.IntN(11)), width, of(width), of(width))
}

// changed returns t with one of its nodes changed: often, but not always, to what has the same value.
func (m maker) changed(t api.Term) api.Term {
	t = copyOf(t, 0)
	all := nodesOf(&t)
	n := all[m.IntN(len(all))]
	x, w := *n, n.Width
	y := m.leaf(w)
	switch m.IntN(9) {
	case 0:
		*n = op(api.TermSub, w, op(api.TermAdd, w, x, y), y)
	case 1:
		*n = op(api.TermXor, w, y, op(api.TermXor, w, x, y))
	case 2:
		*n = op(api.TermAdd, w, op(api.TermAnd, w, x, y), op(api.TermAnd, w, x, op(api.TermNot, w, y)))
	case 3:
		*n = op(api.TermIte, w, op(api.TermUlt, 1, x, y), x, op(api.TermAdd, w, op(api.TermUrem, w, x, y), op(api.TermMul, w, y, op(api.TermUdiv, w, x, y))))
	case 4:
		*n = op(api.TermNot, w, op(api.TermSub, w, op(api.TermNeg, w, x), number(w, 1)))
	case 5:
		*n = op(api.TermOr, w, x, y)
	case 6:
		*n = op(api.TermSar, w, op(api.TermShl, w, x, y), y)
	case 7:
		*n = op(api.TermAdd, w, x, op(api.TermShr, w, y, y))
	default:
		if len(x.Sub) == 2 && x.Kind != api.TermConcat {
			n.Sub[0], n.Sub[1] = n.Sub[1], n.Sub[0]
		}
	}
	return t
}

// counts returns how often Equal gives each answer for this many pairs of terms, with one of these limits.
func (m maker) counts(t *testing.T, many int, limits ...int) map[uint8]int {
	t.Helper()
	counts := map[uint8]int{}
	for range many {
		a, b := m.pair()
		counts[decided(t, a, b, limits[m.IntN(len(limits))])]++
	}
	return counts
}

// pair returns two terms of the same width, often equal ones, whose TermEq is valid.
func (m maker) pair() (api.Term, api.Term) {
	for {
		a := m.term(m.width(), m.IntN(4))
		b := m.changed(a)
		if m.IntN(4) == 0 {
			b = m.term(a.Width, m.IntN(4))
		}
		if term.Check(equal(a, b)) == api.OK {
			return a, b
		}
	}
}
