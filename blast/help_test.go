package blast_test

import (
	"math/rand/v2"
	"slices"
	"strconv"
	"testing"

	"retarget/api"
	"retarget/bits"
	"retarget/blast"
	"retarget/term"
)

// number, variable, op and extract make terms.
func number(width int, x uint64) api.Term {
	return api.Term{Kind: api.TermConst, Width: width, Bits: x}
}

func variable(name string, width int) api.Term {
	return api.Term{Kind: api.TermVar, Width: width, Name: name}
}

func op(kind uint8, width int, parts ...api.Term) api.Term {
	return api.Term{Kind: kind, Width: width, Sub: parts}
}

func extract(low, width int, x api.Term) api.Term {
	return api.Term{Kind: api.TermExtract, Width: width, Low: low, Sub: []api.Term{x}}
}

// must returns a value that comes without an error.
func must[T any](x T, e api.Errno) T {
	if e != api.OK {
		panic(e)
	}
	return x
}

func parse(s string) api.Term {
	t, e := term.Parse(s)
	if e != api.OK {
		panic(s)
	}
	return t
}

func text(t api.Term) string { return must(term.Text(t)) }

// circuit returns the circuit of a term.
func circuit(t *testing.T, x api.Term) api.Circuit {
	t.Helper()
	c, e := blast.Blast(x)
	if e != api.OK {
		t.Fatalf("%v: %d", x, e)
	}
	return c
}

// chain returns a variable within this many terms of a kind.
func chain(many int, kind uint8, width int) api.Term {
	t := variable("a", width)
	for range many {
		t = op(kind, width, t)
	}
	return t
}

// joined returns the terms put together by an operation, in a term that is not deep.
func joined(kind uint8, terms ...api.Term) api.Term {
	if len(terms) == 1 {
		return terms[0]
	}
	half := len(terms) / 2
	x, y := joined(kind, terms[:half]...), joined(kind, terms[half:]...)
	if kind == api.TermConcat {
		return op(kind, x.Width+y.Width, x, y)
	}
	return op(kind, x.Width, x, y)
}

// endless returns a term with many times itself as its parts.
func endless(many int) api.Term {
	parts := make([]api.Term, many)
	t := api.Term{Kind: api.TermAdd, Width: 8, Sub: parts}
	for i := range parts {
		parts[i] = t
	}
	return t
}

// sizeOf returns the number of nodes of a term.
func sizeOf(t api.Term) int {
	sum := 1
	for _, p := range t.Sub {
		sum += sizeOf(p)
	}
	return sum
}

// price is the cost of a term, as the chapter defines it.
func price(t api.Term) int {
	w := t.Width
	if len(t.Sub) > 0 {
		w = t.Sub[0].Width
	}
	each := map[uint8]int{
		api.TermNeg: 20 * w, api.TermAdd: 20 * w, api.TermSub: 20 * w, api.TermEq: 20 * w, api.TermUlt: 20 * w, api.TermSlt: 20 * w,
		api.TermMul: 20 * w * w, api.TermUdiv: 40 * w * w, api.TermUrem: 40 * w * w,
		api.TermAnd: w, api.TermOr: w, api.TermXor: 4 * w,
		api.TermShl: 40 * w, api.TermShr: 40 * w, api.TermSar: 40 * w,
		api.TermIte: 4 * t.Width,
	}
	sum := each[t.Kind]
	for _, p := range t.Sub {
		sum += price(p)
	}
	return sum
}

// values returns the values of all nodes of a valid circuit, as the chapter defines them.
func values(c api.Circuit, in []bool) []bool {
	nodes := append([]bool{false}, in...)
	for _, g := range c.Gates {
		nodes = append(nodes, literal(nodes, g.A) && literal(nodes, g.B))
	}
	return nodes
}

func literal(nodes []bool, l int) bool {
	if l%2 == 1 {
		return !nodes[l/2]
	}
	return nodes[l/2]
}

// inputs returns the values of the inputs of a circuit with these bindings, all of which are there.
func inputs(c api.Circuit, env []api.Binding) []bool {
	var in []bool
	for _, put := range c.Inputs {
		for _, b := range env {
			if b.Name == put.Name {
				in = append(in, b.Bits>>put.Bit%2 == 1)
			}
		}
	}
	return in
}

// result returns the outputs of a circuit with these bindings as a number.
func result(c api.Circuit, env []api.Binding) uint64 {
	nodes := values(c, inputs(c, env))
	var x uint64
	for i, output := range c.Outputs {
		if literal(nodes, output) {
			x |= 1 << i
		}
	}
	return x
}

// assignments yields all lists of this many truth values.
func assignments(many int, yield func([]bool)) {
	for x := range uint64(1) << many {
		var list []bool
		for i := range many {
			list = append(list, x>>i%2 == 1)
		}
		yield(list)
	}
}

// copyOf copies a term, with this many further terms between the length and the capacity of each list.
func copyOf(t api.Term, room int) api.Term {
	parts := make([]api.Term, 0, len(t.Sub)+room)
	for _, p := range t.Sub {
		parts = append(parts, copyOf(p, room))
	}
	for i := range room {
		parts[:cap(parts)][len(parts)+i] = variable("beyond", 1+i)
	}
	t.Sub = parts
	return t
}

// roomy copies a list, with this many further elements between its length and its capacity.
func roomy[T any](list []T, room int, beyond T) []T {
	out := make([]T, 0, len(list)+room)
	out = append(out, list...)
	for i := range room {
		out[:cap(out)][len(list)+i] = beyond
	}
	return out
}

// whole returns a list with all that it has room for.
func whole[T any](list []T) []T { return list[:cap(list)] }

// twin copies a circuit.
func twin(c api.Circuit) api.Circuit {
	return api.Circuit{Inputs: slices.Clone(c.Inputs), Gates: slices.Clone(c.Gates), Outputs: slices.Clone(c.Outputs)}
}

// same reports whether two circuits are the same, nil and empty lists being equal.
func same(a, b api.Circuit) bool {
	return slices.Equal(a.Inputs, b.Inputs) && slices.Equal(a.Gates, b.Gates) && slices.Equal(a.Outputs, b.Outputs)
}

// samples returns values of the width: all of them if there are few, otherwise those at which something may go wrong.
func samples(width int) []uint64 {
	most := bits.Mask(width)
	if width <= 3 {
		var all []uint64
		for x := range most + 1 {
			all = append(all, x)
		}
		return all
	}
	w, sign := uint64(width), uint64(1)<<(width-1)
	var out []uint64
	for _, x := range []uint64{0, 1, 2, 3, 5, w - 1, w, w + 1, 31, 32, 33, 64, 65, 128, 1 << 32, 0x5555555555555555, 0x123456789abcdef0, sign - 1, sign, sign + 1, sign + w, most - 1, most} {
		if x &= most; !slices.Contains(out, x) {
			out = append(out, x)
		}
	}
	return out
}

// A maker makes terms and circuits by chance, always the same ones.
type maker struct{ *rand.Rand }

func newMaker(seed uint64) maker { return maker{rand.New(rand.NewPCG(seed, 4))} }

func (m maker) bits(width int) uint64 {
	w := uint64(width)
	some := []uint64{0, 1, 2, w - 1, w, w + 1, 1 << (w - 1), bits.Mask(width), m.Uint64(), m.Uint64(), m.Uint64()}
	return some[m.IntN(len(some))] & bits.Mask(width)
}

func (m maker) width(most int) int {
	if m.IntN(2) == 0 {
		return min(most, []int{1, 2, 8, 16, 33}[m.IntN(5)])
	}
	return 1 + m.IntN(most)
}

// term returns a valid pure term of the width, of at most this depth, whose parts have at most the width most.
func (m maker) term(width, depth, most int) api.Term {
	if depth == 1 || m.IntN(8) == 0 {
		if m.IntN(3) == 0 {
			return number(width, m.bits(width))
		}
		return variable([]string{"a", "r.b", "C_"}[m.IntN(3)]+strconv.Itoa(width), width)
	}
	of := func(width int) api.Term { return m.term(width, depth-1, most) }
	switch m.IntN(8) {
	case 0:
		return op(api.TermNot+uint8(m.IntN(2)), width, of(width))
	case 1:
		if width == 1 {
			w := m.width(most)
			return op(api.TermEq+uint8(m.IntN(3)), 1, of(w), of(w))
		}
		low := 1 + m.IntN(width-1)
		return op(api.TermConcat, width, of(width-low), of(low))
	case 2:
		return op(api.TermIte, width, of(1), of(width), of(width))
	case 3:
		w := width + m.IntN(most+1-width)
		return extract(m.IntN(w-width+1), width, of(w))
	case 4:
		return op(api.TermZext+uint8(m.IntN(2)), width, of(1+m.IntN(width)))
	}
	return op(api.TermAdd+uint8(m.IntN(11)), width, of(width), of(width))
}

// cheap returns a term of which there is a circuit.
func (m maker) cheap(most int) api.Term {
	for {
		t := m.term(m.width(most), 1+m.IntN(5), most)
		if sizeOf(t) <= api.MaxNodes && price(t) <= api.MaxGates/4 && bitsOf(must(term.Vars(t))) <= api.MaxInputs {
			return t
		}
	}
}

func bitsOf(vars []api.Binding) int {
	sum := 0
	for _, v := range vars {
		sum += v.Width
	}
	return sum
}

// bound returns bindings of these variables, with values by chance.
func (m maker) bound(vars []api.Binding) []api.Binding {
	var env []api.Binding
	for _, v := range vars {
		env = append(env, api.Binding{Name: v.Name, Width: v.Width, Bits: m.bits(v.Width)})
	}
	return env
}

// circuit returns a valid circuit with these numbers of inputs, gates and outputs.
func (m maker) circuit(many, gates, outputs int) api.Circuit {
	var c api.Circuit
	for i := range many {
		c.Inputs = append(c.Inputs, api.CircuitInput{Name: []string{"a", "b", "r.c"}[i*3/many], Bit: i})
	}
	for i := range gates {
		most := 2 * (1 + many + i)
		c.Gates = append(c.Gates, api.CircuitGate{A: m.IntN(most), B: m.IntN(most)})
	}
	for range outputs {
		c.Outputs = append(c.Outputs, m.IntN(2*(1+many+gates)))
	}
	return c
}
