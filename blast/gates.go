package blast

import "retarget/api"

// The literals of node 0.
const (
	no  = 0
	yes = 1
)

// not returns the inverted literal.
func not(l int) int { return l ^ 1 }

// inverts reports whether a literal stands for the inverted node.
func inverts(l int) bool { return l&1 == 1 }

// A builder has what is there already of a circuit: the literals of the bits of each variable, the number of nodes before the gates, and the gates, with their literals.
type builder struct {
	vars  map[string][]int
	nodes int
	gates []api.CircuitGate
	known map[api.CircuitGate]int
}

func newBuilder(inputs []api.CircuitInput) *builder {
	b := &builder{vars: map[string][]int{}, nodes: 1, known: map[api.CircuitGate]int{}}
	for _, in := range inputs {
		b.vars[in.Name] = append(b.vars[in.Name], 2*b.nodes)
		b.nodes++
	}
	return b
}

// and returns a literal that is true if both are. There is a new gate for it only if it is not one of them, false, or that of a gate that is there already.
func (b *builder) and(x, y int) int {
	x, y = min(x, y), max(x, y)
	switch {
	case x == no || x == not(y):
		return no
	case x == yes || x == y:
		return y
	}
	gate := api.CircuitGate{A: x, B: y}
	l, there := b.known[gate]
	if !there {
		l = 2 * (b.nodes + len(b.gates))
		b.gates = append(b.gates, gate)
		b.known[gate] = l
	}
	return l
}

// or needs one gate.
func (b *builder) or(x, y int) int { return not(b.and(not(x), not(y))) }

// xor needs three gates.
func (b *builder) xor(x, y int) int { return b.and(b.or(x, y), not(b.and(x, y))) }

// choice returns x if which is true, otherwise y; it needs three gates.
func (b *builder) choice(which, x, y int) int {
	if x == y {
		return x
	}
	return b.or(b.and(which, x), b.and(not(which), y))
}

// adder returns a closure that adds the next bits of two numbers, the lowest ones first, and remembers the carry; so the sum of no further bits is the carry. Each sum needs at most nine gates.
func (b *builder) adder(carry int) func(x, y int) int {
	return func(x, y int) int {
		differ := b.xor(x, y)
		sum := b.xor(differ, carry)
		carry = b.or(b.and(x, y), b.and(differ, carry))
		return sum
	}
}
