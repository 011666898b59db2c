package blast_test

import (
	"math"
	"slices"
	"testing"

	"retarget/api"
	"retarget/blast"
	"retarget/term"
)

func sameClauses(a, b [][]int) bool {
	return slices.EqualFunc(a, b, func(x, y []int) bool { return slices.Equal(x, y) })
}

func TestP4_4ClausesToTheLetter(t *testing.T) {
	two := longInputs(2)
	for i, c := range []struct {
		circuit api.Circuit
		output  int
		atoms   int
		clauses [][]int
	}{
		{api.Circuit{Outputs: []int{0}}, 0, 1, [][]int{{-1}, {1}}},
		{api.Circuit{Outputs: []int{1}}, 0, 1, [][]int{{-1}, {-1}}},
		{api.Circuit{Inputs: two, Outputs: []int{2, 3, 4, 5}}, 0, 3, [][]int{{-1}, {2}}},
		{api.Circuit{Inputs: two, Outputs: []int{2, 3, 4, 5}}, 1, 3, [][]int{{-1}, {-2}}},
		{api.Circuit{Inputs: two, Outputs: []int{2, 3, 4, 5}}, 2, 3, [][]int{{-1}, {3}}},
		{api.Circuit{Inputs: two, Outputs: []int{2, 3, 4, 5}}, 3, 3, [][]int{{-1}, {-3}}},
		{api.Circuit{Inputs: two, Gates: []api.CircuitGate{{A: 2, B: 5}}, Outputs: []int{7}}, 0, 4, [][]int{{-1}, {-4, 2}, {-4, -3}, {4, -2, 3}, {-4}}},
		{api.Circuit{Inputs: two, Gates: []api.CircuitGate{{A: 5, B: 2}}, Outputs: []int{6}}, 0, 4, [][]int{{-1}, {-4, -3}, {-4, 2}, {4, 3, -2}, {4}}},
		{api.Circuit{Inputs: two, Gates: []api.CircuitGate{{A: 3, B: 3}}, Outputs: []int{6}}, 0, 4, [][]int{{-1}, {-4, -2}, {-4, -2}, {4, 2, 2}, {4}}},
		{api.Circuit{Inputs: two, Gates: []api.CircuitGate{{A: 2, B: 3}}, Outputs: []int{6}}, 0, 4, [][]int{{-1}, {-4, 2}, {-4, -2}, {4, -2, 2}, {4}}},
		{api.Circuit{Gates: []api.CircuitGate{{A: 0, B: 1}, {A: 3, B: 2}}, Outputs: []int{1, 5}}, 1, 3, [][]int{{-1}, {-2, 1}, {-2, -1}, {2, -1, 1}, {-3, -2}, {-3, 2}, {3, 2, -2}, {-3}}},
		{api.Circuit{Inputs: two[:1], Gates: []api.CircuitGate{{A: 2, B: 1}, {A: 5, B: 3}, {A: 7, B: 4}}, Outputs: []int{8, 3, 0}}, 0, 5, [][]int{{-1}, {-3, 2}, {-3, -1}, {3, -2, 1}, {-4, -3}, {-4, -2}, {4, 3, 2}, {-5, -4}, {-5, 3}, {5, 4, -3}, {5}}},
		{api.Circuit{Inputs: two[:1], Gates: []api.CircuitGate{{A: 2, B: 1}}, Outputs: []int{8 - 4, 3, 0}}, 2, 3, [][]int{{-1}, {-3, 2}, {-3, -1}, {3, -2, 1}, {1}}},
	} {
		atoms, clauses, e := blast.Clauses(c.circuit, c.output)
		if e != api.OK || atoms != c.atoms || !sameClauses(clauses, c.clauses) {
			t.Errorf("%d: %d %v %d", i, atoms, clauses, e)
		}
	}
}

// written is the chapter's definition of the clauses.
func written(c api.Circuit, output int) [][]int {
	atom := func(l int) int {
		if l%2 == 0 {
			return l/2 + 1
		}
		return -(l/2 + 1)
	}
	all := [][]int{{-1}}
	for i, gate := range c.Gates {
		g := 1 + len(c.Inputs) + i + 1
		all = append(all, []int{-g, atom(gate.A)}, []int{-g, atom(gate.B)}, []int{g, -atom(gate.A), -atom(gate.B)})
	}
	return append(all, []int{atom(c.Outputs[output])})
}

func TestP4_4ClausesByChance(t *testing.T) {
	m := newMaker(9)
	for range 3000 {
		c := m.circuit(m.IntN(20), m.IntN(40), 1+m.IntN(64))
		output := m.IntN(len(c.Outputs))
		atoms, clauses, e := blast.Clauses(c, output)
		if e != api.OK || atoms != 1+len(c.Inputs)+len(c.Gates) || !sameClauses(clauses, written(c, output)) {
			t.Fatalf("%v, output %d: %d %v %d", c, output, atoms, clauses, e)
		}
	}
}

// nodes returns a circuit with this many nodes.
func nodes(many int) api.Circuit {
	c := api.Circuit{Inputs: longInputs(2), Outputs: []int{2*many - 1}}
	for i := range many - 3 {
		c.Gates = append(c.Gates, api.CircuitGate{A: 2 * i, B: 2*i + 5})
	}
	return c
}

func TestP4_4Bound(t *testing.T) {
	for _, many := range []int{3, 4998, 4999, 5000} {
		c := nodes(many)
		atoms, clauses, e := blast.Clauses(c, 0)
		if e != api.OK || atoms != many || !sameClauses(clauses, written(c, 0)) {
			t.Errorf("%d nodes: %d %d %d", many, atoms, len(clauses), e)
		}
	}
	for _, many := range []int{5001, 5002, 10000, 100003} {
		atoms, clauses, e := blast.Clauses(nodes(many), 0)
		if e != api.ErrMany || atoms != 0 || len(clauses) != 0 {
			t.Errorf("%d nodes: %d %d %d", many, atoms, len(clauses), e)
		}
	}
	// The inputs count as well.
	for gates, want := range map[int]api.Errno{5000 - 512 - 1: api.OK, 5000 - 512: api.ErrMany} {
		if atoms, _, e := blast.Clauses(api.Circuit{Inputs: longInputs(512), Gates: longGates(gates), Outputs: []int{0}}, 0); e != want || atoms != 0 && atoms != 5000 {
			t.Errorf("512 inputs and %d gates: %d %d", gates, atoms, e)
		}
	}
}

func TestP4_4Errors(t *testing.T) {
	none := func(what string, c api.Circuit, output int, want api.Errno) {
		t.Helper()
		if atoms, clauses, e := blast.Clauses(c, output); e != want || atoms != 0 || len(clauses) != 0 {
			t.Errorf("%s, output %d: %d %v %d", what, output, atoms, clauses, e)
		}
	}
	outputs := []int{-1, -2, 3, 4, 64, 65, math.MaxInt, math.MinInt}
	three := api.Circuit{Inputs: longInputs(2), Gates: []api.CircuitGate{{A: 2, B: 4}}, Outputs: []int{6, 7, 0}}
	large := nodes(5001)
	large.Outputs = []int{0, 1, 2}
	for _, output := range outputs {
		none("three outputs", three, output, api.ErrArg)
		none("three outputs, too many nodes", large, output, api.ErrArg)
		for what, c := range broken() {
			none(what, c, output, blast.Check(c))
		}
	}
	none("no outputs", api.Circuit{Inputs: longInputs(2)}, 0, api.ErrArg)
	none("nothing", api.Circuit{}, 0, api.ErrArg)
	for output := range 3 {
		none("too many nodes", large, output, api.ErrMany)
		if _, _, e := blast.Clauses(three, output); e != api.OK {
			t.Errorf("output %d: %d", output, e)
		}
	}
	for what, c := range broken() {
		none(what, c, 0, blast.Check(c))
	}
	large.Outputs[2] = -1
	none("too many nodes, not valid", large, 0, api.ErrBad)
	large.Outputs = make([]int, 65)
	none("too many nodes, too many outputs", large, 99, api.ErrMany)
}

// TestP4_4Memory spoils results: no two of their clauses share memory, and the circuit stays as it is.
func TestP4_4Memory(t *testing.T) {
	m := newMaker(10)
	for range 1000 {
		c := m.circuit(1+m.IntN(6), m.IntN(20), 1+m.IntN(10))
		room := m.IntN(8)
		c.Inputs, c.Gates, c.Outputs = roomy(c.Inputs, room, api.CircuitInput{Name: "beyond"}), roomy(c.Gates, room, api.CircuitGate{A: -7, B: -7}), roomy(c.Outputs, room, -7)
		kept := twin(api.Circuit{Inputs: whole(c.Inputs), Gates: whole(c.Gates), Outputs: whole(c.Outputs)})
		output := m.IntN(len(c.Outputs))
		_, clauses, _ := blast.Clauses(c, output)
		want := written(c, output)
		seen := map[*int]bool{}
		for _, clause := range clauses {
			for i := range whole(clause) {
				if at := &whole(clause)[i]; seen[at] {
					t.Fatal("two clauses share memory")
				} else {
					seen[at] = true
				}
				whole(clause)[i] = 99
			}
		}
		for i := range whole(clauses) {
			whole(clauses)[i] = nil
		}
		if !same(api.Circuit{Inputs: whole(c.Inputs), Gates: whole(c.Gates), Outputs: whole(c.Outputs)}, kept) {
			t.Fatal("an argument was changed")
		}
		if _, again, _ := blast.Clauses(c, output); !sameClauses(again, want) {
			t.Fatalf("%v, and then %v", want, again)
		}
	}
}

// holds reports whether all clauses have a literal that is true.
func holds(clauses [][]int, atoms []bool) bool {
	for _, clause := range clauses {
		if !slices.ContainsFunc(clause, func(l int) bool { return atoms[max(l, -l)-1] == (l > 0) }) {
			return false
		}
	}
	return true
}

// exactly fails unless the clauses of an output are satisfied just by the values of the nodes for inputs for which it is true: all values of all atoms are tried.
func exactly(t *testing.T, c api.Circuit, output int) {
	t.Helper()
	atoms, clauses, e := blast.Clauses(c, output)
	if e != api.OK {
		t.Fatal(c, e)
	}
	var want, got [][]bool
	assignments(len(c.Inputs), func(in []bool) {
		if nodes := values(c, in); literal(nodes, c.Outputs[output]) {
			want = append(want, nodes)
		}
	})
	assignments(atoms, func(list []bool) {
		if holds(clauses, list) {
			got = append(got, list)
		}
	})
	if len(got) != len(want) {
		t.Fatalf("%v, output %d: satisfied by %d, not %d", c, output, len(got), len(want))
	}
	for _, nodes := range want {
		if !slices.ContainsFunc(got, func(list []bool) bool { return slices.Equal(list, nodes) }) {
			t.Fatalf("%v, output %d: not satisfied by %v", c, output, nodes)
		}
	}
}

func TestP4_5SatisfiedExactly(t *testing.T) {
	m := newMaker(11)
	for range 400 {
		c := m.circuit(m.IntN(4), m.IntN(8), 1+m.IntN(3))
		for output := range c.Outputs {
			exactly(t, c, output)
		}
	}
	for _, s := range []string{"a:2", "2:1", "(and a:2 b:2)", "(xor a:1 b:1)", "(eq a:1 b:1)", "(ult a:1 b:1)", "(ite f:1 a:1 b:1)", "(add a:1 b:1)", "(sub a:2 2:1)", "(neg a:2)", "(shl a:1 b:1)", "(udiv a:1 b:1)", "(mul a:2 a:2)", "(eq a:2 a:2)", "(not (eq a:2 a:2))"} {
		c := circuit(t, parse(s))
		if 1+len(c.Inputs)+len(c.Gates) > 18 {
			t.Fatalf("%s: too large for the test", s)
		}
		for output := range c.Outputs {
			exactly(t, c, output)
		}
	}
}

// TestP4_5OfTerms has larger circuits: the clauses hold for the values of the nodes if the output is true, and not if the value of one more node is changed.
func TestP4_5OfTerms(t *testing.T) {
	m := newMaker(12)
	tried := 0
	for range 400 {
		x := m.cheap(10)
		c := circuit(t, x)
		if 1+len(c.Inputs)+len(c.Gates) > 1000 {
			continue
		}
		output := m.IntN(len(c.Outputs))
		_, clauses, e := blast.Clauses(c, output)
		if e != api.OK {
			t.Fatal(text(x), e)
		}
		for range 4 {
			nodes := values(c, inputs(c, m.bound(must(term.Vars(x)))))
			is := literal(nodes, c.Outputs[output])
			if holds(clauses, nodes) != is {
				t.Fatalf("%s, output %d is %v", text(x), output, is)
			}
			tried++
			for range 5 {
				changed := slices.Clone(nodes)
				i := m.IntN(len(nodes))
				changed[i] = !changed[i]
				if i > len(c.Inputs) || i == 0 {
					if holds(clauses, changed) {
						t.Fatalf("%s: holds for a wrong value of node %d", text(x), i)
					}
				}
			}
		}
	}
	if tried < 500 {
		t.Error(tried)
	}
}

// TestP4_5Satisfiable has outputs that can be true and outputs that cannot.
func TestP4_5Satisfiable(t *testing.T) {
	for s, can := range map[string]bool{"(eq a:1 (not a:1))": false, "(ult a:2 a:2)": false, "(eq a:1 1:1)": true, "(ult a:1 b:1)": true, "1:0": false, "1:1": true, "(and a:1 (not a:1))": false, "(slt b:2 2:2)": false, "(slt 2:2 b:2)": true} {
		c := circuit(t, parse(s))
		atoms, clauses, e := blast.Clauses(c, 0)
		if e != api.OK || atoms > 18 {
			t.Fatal(s, atoms, e)
		}
		found := false
		assignments(atoms, func(list []bool) { found = found || holds(clauses, list) })
		if found != can {
			t.Errorf("%s: %v", s, found)
		}
	}
}
