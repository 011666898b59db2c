package blast

import (
	"cmp"
	"slices"
	"strings"

	"retarget/api"
	"retarget/bits"
	"retarget/term"
)

// Check returns ErrMany if a list of c is too long, and then ErrBad if c is not valid.
func Check(c api.Circuit) api.Errno {
	if len(c.Inputs) > api.MaxInputs || len(c.Gates) > api.MaxGates || len(c.Outputs) > api.MaxWidth {
		return api.ErrMany
	}
	if !validInputs(c.Inputs) {
		return api.ErrBad
	}
	// A gate only has literals of nodes before it, so nodes is its own number.
	nodes := 1 + len(c.Inputs)
	for _, g := range c.Gates {
		if !isLiteral(g.A, nodes) || !isLiteral(g.B, nodes) {
			return api.ErrBad
		}
		nodes++
	}
	for _, output := range c.Outputs {
		if !isLiteral(output, nodes) {
			return api.ErrBad
		}
	}
	return api.OK
}

func validInputs(inputs []api.CircuitInput) bool {
	for i, in := range inputs {
		if !isVariable(in.Name) || in.Bit < 0 || in.Bit >= api.MaxWidth || i > 0 && !before(inputs[i-1], in) {
			return false
		}
	}
	return true
}

// before reports whether the input a comes before the input b in a valid circuit.
func before(a, b api.CircuitInput) bool {
	return cmp.Or(strings.Compare(a.Name, b.Name), cmp.Compare(a.Bit, b.Bit)) < 0
}

// isVariable reports whether s is the name of a variable.
func isVariable(s string) bool { return bits.Name(strings.TrimPrefix(s, "r.")) }

// isLiteral reports whether l is a literal of one of the first nodes, of which there are this many.
func isLiteral(l, nodes int) bool { return 0 <= l && l < 2*nodes }

// nodesOf returns the number of nodes of a circuit.
func nodesOf(c api.Circuit) int { return 1 + len(c.Inputs) + len(c.Gates) }

// Run returns the values of the outputs of c if its inputs have the values in.
func Run(c api.Circuit, in []bool) ([]bool, api.Errno) {
	if e := Check(c); e != api.OK {
		return nil, e
	}
	if len(in) != len(c.Inputs) {
		return nil, api.ErrArg
	}
	nodes := make([]bool, 1, nodesOf(c))
	value := func(l int) bool { return nodes[l/2] != inverts(l) }
	nodes = append(nodes, in...)
	for _, g := range c.Gates {
		nodes = append(nodes, value(g.A) && value(g.B))
	}
	var out []bool
	for _, output := range c.Outputs {
		out = append(out, value(output))
	}
	return out, api.OK
}

// Inputs returns the values of the inputs of c with these bindings of their variables.
func Inputs(c api.Circuit, env []api.Binding) ([]bool, api.Errno) {
	e := Check(c)
	if e == api.OK {
		e = term.CheckBound(env)
	}
	if e != api.OK {
		return nil, e
	}
	var in []bool
	for _, input := range c.Inputs {
		i, bound := slices.BinarySearchFunc(env, input.Name, func(b api.Binding, name string) int { return strings.Compare(b.Name, name) })
		if !bound {
			return nil, api.ErrName
		}
		if input.Bit >= env[i].Width {
			return nil, api.ErrArg
		}
		in = append(in, env[i].Bits>>input.Bit&1 == 1)
	}
	return in, api.OK
}

// Clauses returns the number of nodes of c, and the clauses that say that the output with an index is true.
func Clauses(c api.Circuit, output int) (atoms int, clauses [][]int, e api.Errno) {
	if e := Check(c); e != api.OK {
		return 0, nil, e
	}
	if output < 0 || output >= len(c.Outputs) {
		return 0, nil, api.ErrArg
	}
	if nodesOf(c) > api.MaxAtoms {
		return 0, nil, api.ErrMany
	}
	clauses = [][]int{{atomOf(yes)}}
	for i, gate := range c.Gates {
		g, a, b := atomOf(2*(1+len(c.Inputs)+i)), atomOf(gate.A), atomOf(gate.B)
		clauses = append(clauses, []int{-g, a}, []int{-g, b}, []int{g, -a, -b})
	}
	return nodesOf(c), append(clauses, []int{atomOf(c.Outputs[output])}), api.OK
}

// atomOf returns the atom of the node of a literal, or its negative if the literal is inverted.
func atomOf(l int) int {
	if inverts(l) {
		return -(l/2 + 1)
	}
	return l/2 + 1
}
