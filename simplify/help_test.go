package simplify_test

import (
	"math/rand/v2"
	"strconv"
	"testing"

	"retarget/api"
	"retarget/bits"
	"retarget/simplify"
	"retarget/term"
)

// number, variable, op and extract make terms.
func number(width int, x uint64) api.Term {
	return api.Term{Kind: api.TermConst, Width: width, Bits: x}
}

func variable(name string, width int) api.Term {
	return api.Term{Kind: api.TermVar, Width: width, Name: name}
}

func op(kind uint8, width int, parts ...api.Term) api.Term {
	return api.Term{Kind: kind, Width: width, Sub: parts}
}

func extract(low, width int, x api.Term) api.Term {
	return api.Term{Kind: api.TermExtract, Width: width, Low: low, Sub: []api.Term{x}}
}

// must returns a value that comes without an error.
func must[T any](x T, e api.Errno) T {
	if e != api.OK {
		panic(e)
	}
	return x
}

func parse(s string) api.Term {
	t, e := term.Parse(s)
	if e != api.OK {
		panic(s)
	}
	return t
}

func text(t api.Term) string { return must(term.Text(t)) }

func simple(t api.Term) api.Term { return must(simplify.Term(t)) }

// becomes fails unless the term with the text s is simplified to that with the text want.
func becomes(t *testing.T, s, want string) {
	t.Helper()
	y, e := simplify.Term(parse(s))
	if got, f := term.Text(y); e != api.OK || f != api.OK || got != want {
		t.Errorf("%s becomes %s, not %s (%d %d)", s, got, want, e, f)
	}
}

// zero fails unless x, which was returned with an error, is the zero term.
func zero(t *testing.T, x api.Term) {
	t.Helper()
	if x.Kind != 0 || x.Width != 0 || x.Bits != 0 || x.Name != "" || x.Low != 0 || len(x.Sub) != 0 {
		t.Errorf("with an error: %v", x)
	}
}

// copyOf copies a term, with this many further terms between the length and the capacity of each list.
func copyOf(t api.Term, room int) api.Term {
	parts := make([]api.Term, 0, len(t.Sub)+room)
	for _, p := range t.Sub {
		parts = append(parts, copyOf(p, room))
	}
	for i := range room {
		parts[:cap(parts)][len(parts)+i] = variable("beyond", 1+i)
	}
	t.Sub = parts
	return t
}

// places returns the places of all nodes of a term.
func places(t *api.Term) []*api.Term {
	all := []*api.Term{t}
	for i := range t.Sub {
		all = append(all, places(&t.Sub[i])...)
	}
	return all
}

// rooms returns the places of all that the lists of a term have room for.
func rooms(t *api.Term) []*api.Term {
	var all []*api.Term
	for _, n := range places(t) {
		for i := range n.Sub[:cap(n.Sub)] {
			all = append(all, &n.Sub[:cap(n.Sub)][i])
		}
	}
	return all
}

// chain returns a variable of this width within this many terms of a kind.
func chain(many int, kind uint8, width int) api.Term {
	t := variable("a", width)
	for range many {
		t = op(kind, width, t)
	}
	return t
}

// wide returns a sum of this many times the same leaf, none of them deeper than 10.
func wide(leaves int, leaf api.Term) api.Term {
	if leaves == 1 {
		return leaf
	}
	return op(api.TermAdd, leaf.Width, wide(leaves/2, leaf), wide(leaves-leaves/2, leaf))
}

// endless returns a term with many times itself as its parts.
func endless(many int) api.Term {
	parts := make([]api.Term, many)
	t := api.Term{Kind: api.TermAdd, Width: 8, Sub: parts}
	for i := range parts {
		parts[i] = t
	}
	return t
}

// A maker makes terms by chance, always the same ones, to which rules often apply.
type maker struct{ *rand.Rand }

func newMaker(seed uint64) maker { return maker{rand.New(rand.NewPCG(seed, 3))} }

func (m maker) width() int {
	if m.IntN(2) == 0 {
		return []int{1, 8, 16, 32, 64}[m.IntN(5)]
	}
	return 1 + m.IntN(64)
}

func (m maker) bits(width int) uint64 {
	w := uint64(width)
	some := []uint64{0, 0, 0, 1, 1, 2, w - 1, w, w + 1, 1 << (w - 1), bits.Mask(width), bits.Mask(width), m.Uint64()}
	return some[m.IntN(len(some))] & bits.Mask(width)
}

func (m maker) leaf(width int) api.Term {
	if m.IntN(2) == 0 {
		return number(width, m.bits(width))
	}
	return variable([]string{"a", "r.b"}[m.IntN(2)]+strconv.Itoa(width), width)
}

// pair returns two terms, which are often the same.
func (m maker) pair(width, depth int) (api.Term, api.Term) {
	x := m.term(width, depth)
	if m.IntN(3) == 0 {
		return x, copyOf(x, 0)
	}
	return x, m.term(width, depth)
}

// term returns a valid term of the width and of at most this depth; few are too great.
func (m maker) term(width, depth int) api.Term {
	if depth == 1 || m.IntN(8) == 0 {
		return m.leaf(width)
	}
	switch m.IntN(9) {
	case 0:
		return op(api.TermNot+uint8(m.IntN(2)), width, m.term(width, depth-1))
	case 1:
		if width == 1 {
			x, y := m.pair(m.width(), depth-1)
			return op(api.TermEq+uint8(m.IntN(3)), 1, x, y)
		}
		low := 1 + m.IntN(width-1)
		return op(api.TermConcat, width, m.term(width-low, 1+m.IntN(depth-1)), m.term(low, depth-1))
	case 2:
		x, y := m.pair(width, depth-1)
		return op(api.TermIte, width, m.term(1, depth-1), x, y)
	case 3, 4:
		w := width + m.IntN(65-width)*m.IntN(2)
		return extract(m.IntN(w-width+1), width, m.term(w, depth-1))
	case 5:
		w := width - m.IntN(width)*m.IntN(2)
		return op(api.TermZext+uint8(m.IntN(2)), width, m.term(w, depth-1))
	case 6:
		if width == 8 || width == 16 || width == 32 || width == 64 {
			return op(api.TermLoad, width, m.term(m.width(), depth-1))
		}
	}
	x, y := m.pair(width, depth-1)
	return op(api.TermAdd+uint8(m.IntN(11)), width, x, y)
}

func (m maker) valid() api.Term {
	for {
		if t := m.term(m.width(), 1+m.IntN(7)); len(places(&t)) <= api.MaxNodes {
			return t
		}
	}
}

// bound returns bindings of these variables, and of another one.
func (m maker) bound(vars []api.Binding) []api.Binding {
	env := []api.Binding{{Name: "Other", Width: 3, Bits: 5}}
	for _, v := range vars {
		env = append(env, api.Binding{Name: v.Name, Width: v.Width, Bits: m.bits(v.Width)})
	}
	return env
}

// memory returns a valid memory with bytes near 0, near the ends of some widths, and elsewhere.
func (m maker) memory() []api.Cell {
	var mem []api.Cell
	for _, from := range []uint64{0, 120, 250, 65530, 1<<32 - 6, 1<<64 - 6} {
		for i := range uint64(6) {
			if m.IntN(3) > 0 {
				mem = append(mem, api.Cell{At: from + i, Byte: uint8(1 + m.IntN(255))})
			}
		}
	}
	return mem
}
