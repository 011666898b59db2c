package term_test

import (
	"math/rand/v2"
	"strconv"
	"testing"

	"retarget/api"
	"retarget/bits"
	"retarget/term"
)

// number, variable and op make terms without package term.
func number(width int, x uint64) api.Term {
	return api.Term{Kind: api.TermConst, Width: width, Bits: x}
}

func variable(name string, width int) api.Term {
	return api.Term{Kind: api.TermVar, Width: width, Name: name}
}

func op(kind uint8, width int, parts ...api.Term) api.Term {
	return api.Term{Kind: kind, Width: width, Sub: parts}
}

func extract(low, width int, x api.Term) api.Term {
	return api.Term{Kind: api.TermExtract, Width: width, Low: low, Sub: []api.Term{x}}
}

// chain returns a term of this size and depth.
func chain(depth int) api.Term {
	t := variable("a", 8)
	for range depth - 1 {
		t = op(api.TermNot, 8, t)
	}
	return t
}

// wide returns a term of the width 8 with an odd number of nodes, none of them deeper than 10.
func wide(size int) api.Term {
	if size == 1 {
		return variable("a", 8)
	}
	left := size / 2
	if left%2 == 0 {
		left--
	}
	return op(api.TermAdd, 8, wide(left), wide(size-1-left))
}

// doubled returns a term of 2^n - 1 nodes in little memory.
func doubled(n int) api.Term {
	t := number(8, 1)
	for range n - 1 {
		t = op(api.TermAdd, 8, t, t)
	}
	return t
}

// endless returns a term with many times itself as its parts.
func endless(many int) api.Term {
	parts := make([]api.Term, many)
	t := api.Term{Kind: api.TermAdd, Width: 8, Sub: parts}
	for i := range parts {
		parts[i] = t
	}
	return t
}

// copyOf copies a term without package term.
func copyOf(t api.Term) api.Term {
	var parts []api.Term
	for _, p := range t.Sub {
		parts = append(parts, copyOf(p))
	}
	t.Sub = parts
	return t
}

// places returns the places of all nodes of a term.
func places(t *api.Term) []*api.Term {
	all := []*api.Term{t}
	for i := range t.Sub {
		all = append(all, places(&t.Sub[i])...)
	}
	return all
}

// parse returns the term with a text.
func parse(t *testing.T, s string) api.Term {
	t.Helper()
	x, e := term.Parse(s)
	if e != api.OK {
		t.Fatalf("parse %q: %d", s, e)
	}
	return x
}

// zero fails unless x, which was returned with an error, is the zero term.
func zero(t *testing.T, x api.Term) {
	t.Helper()
	if x.Kind != 0 || x.Width != 0 || x.Bits != 0 || x.Name != "" || x.Low != 0 || len(x.Sub) != 0 {
		t.Errorf("with an error: %v", x)
	}
}

// examples returns a valid term of each kind, with its text.
func examples() map[string]api.Term {
	a, b, f, c := variable("a", 8), variable("r.b", 8), variable("f", 1), number(8, 15)
	all := map[string]api.Term{
		"8:0f": c, "a:8": a, "r.b:8": b, "(not a:8)": op(api.TermNot, 8, a), "(neg 8:0f)": op(api.TermNeg, 8, c),
		"(eq a:8 r.b:8)": op(api.TermEq, 1, a, b), "(ult a:8 8:0f)": op(api.TermUlt, 1, a, c), "(slt 8:0f a:8)": op(api.TermSlt, 1, c, a),
		"(ite f:1 a:8 8:0f)": op(api.TermIte, 8, f, a, c), "(concat f:1 a:8)": op(api.TermConcat, 9, f, a),
		"(extract 3 4 a:8)": extract(3, 4, a), "(extract 0 8 a:8)": extract(0, 8, a), "(extract 7 1 a:8)": extract(7, 1, a),
		"(zext 16 a:8)": op(api.TermZext, 16, a), "(zext 8 a:8)": op(api.TermZext, 8, a), "(sext 64 f:1)": op(api.TermSext, 64, f),
		"(load 8 a:8)": op(api.TermLoad, 8, a), "(load 16 f:1)": op(api.TermLoad, 16, f), "(load 32 a:8)": op(api.TermLoad, 32, a), "(load 64 a:8)": op(api.TermLoad, 64, a),
	}
	for i, word := range []string{"add", "sub", "mul", "and", "or", "xor", "shl", "shr", "sar", "udiv", "urem"} {
		all["("+word+" a:8 r.b:8)"] = op(api.TermAdd+uint8(i), 8, a, b)
	}
	return all
}

// A maker makes terms by chance, always the same ones.
type maker struct{ *rand.Rand }

func newMaker(seed uint64) maker { return maker{rand.New(rand.NewPCG(seed, 2))} }

func (m maker) bits(width int) uint64 {
	x := m.Uint64()
	if m.IntN(3) == 0 {
		x = uint64(m.IntN(4)) - 2
	}
	return x & bits.Mask(width)
}

func (m maker) width() int {
	if m.IntN(2) == 0 {
		return []int{1, 8, 16, 32, 64}[m.IntN(5)]
	}
	return 1 + m.IntN(64)
}

// term returns a valid term of the width and of at most this depth, with few variables of each width.
func (m maker) term(width, depth int) api.Term {
	if depth == 1 || m.IntN(8) == 0 {
		if m.IntN(2) == 0 {
			return number(width, m.bits(width))
		}
		name := []string{"a", "r.b", "C_"}[m.IntN(3)] + strconv.Itoa(width)
		return variable(name, width)
	}
	of := func(width int) api.Term { return m.term(width, depth-1) }
	switch m.IntN(8) {
	case 0:
		return op(api.TermNot+uint8(m.IntN(2)), width, of(width))
	case 1:
		if width == 1 {
			w := m.width()
			return op(api.TermEq+uint8(m.IntN(3)), 1, of(w), of(w))
		}
		low := 1 + m.IntN(width-1)
		return op(api.TermConcat, width, of(width-low), of(low))
	case 2:
		return op(api.TermIte, width, of(1), of(width), of(width))
	case 3:
		w := width + m.IntN(65-width)
		return extract(m.IntN(w-width+1), width, of(w))
	case 4:
		return op(api.TermZext+uint8(m.IntN(2)), width, of(1+m.IntN(width)))
	case 5:
		if width == 8 || width == 16 || width == 32 || width == 64 {
			return op(api.TermLoad, width, of(m.width()))
		}
	}
	return op(api.TermAdd+uint8(m.IntN(11)), width, of(width), of(width))
}

// valid returns a valid term: few are too great.
func (m maker) valid() api.Term {
	for {
		if t := m.term(m.width(), 1+m.IntN(6)); len(places(&t)) <= api.MaxNodes {
			return t
		}
	}
}

// bound returns bindings of these variables, with values by chance.
func (m maker) bound(vars []api.Binding) []api.Binding {
	var env []api.Binding
	for _, v := range vars {
		env = append(env, api.Binding{Name: v.Name, Width: v.Width, Bits: m.bits(v.Width)})
	}
	return env
}

// memory returns a valid memory with bytes near 0, near the ends of some widths, and elsewhere.
func (m maker) memory() []api.Cell {
	var mem []api.Cell
	for _, from := range []uint64{0, 120, 250, 65530, 1<<32 - 6, 1<<64 - 6} {
		for i := range uint64(6) {
			if m.IntN(3) > 0 {
				mem = append(mem, api.Cell{At: from + i, Byte: uint8(1 + m.IntN(255))})
			}
		}
	}
	return mem
}
