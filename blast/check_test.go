package blast_test

import (
	"math"
	"slices"
	"strconv"
	"strings"
	"testing"

	"retarget/api"
	"retarget/blast"
)

// longInputs returns this many inputs in order.
func longInputs(many int) []api.CircuitInput {
	var list []api.CircuitInput
	for i := range many {
		list = append(list, api.CircuitInput{Name: "x" + strconv.Itoa(100+i/64), Bit: i % 64})
	}
	return list
}

// longGates returns this many gates that have only literals of node 0.
func longGates(many int) []api.CircuitGate { return make([]api.CircuitGate, many) }

func checks(t *testing.T, what string, c api.Circuit, want api.Errno) {
	t.Helper()
	if e := blast.Check(c); e != want {
		t.Errorf("%s: %d, not %d", what, e, want)
	}
}

func TestP4_1CheckLengths(t *testing.T) {
	for _, c := range []struct {
		what                   string
		inputs, gates, outputs int
		e                      api.Errno
	}{
		{"nothing", 0, 0, 0, api.OK}, {"one of each", 1, 1, 1, api.OK},
		{"511 inputs", 511, 0, 0, api.OK}, {"512 inputs", 512, 0, 0, api.OK}, {"513 inputs", 513, 0, 0, api.ErrMany},
		{"99,999 gates", 0, 99999, 0, api.OK}, {"100,000 gates", 0, 100000, 0, api.OK}, {"100,001 gates", 0, 100001, 0, api.ErrMany},
		{"63 outputs", 0, 0, 63, api.OK}, {"64 outputs", 0, 0, 64, api.OK}, {"65 outputs", 0, 0, 65, api.ErrMany},
		{"the greatest lengths", 512, 100000, 64, api.OK}, {"too many inputs besides", 513, 100000, 64, api.ErrMany}, {"too many gates besides", 512, 100001, 64, api.ErrMany}, {"too many outputs besides", 512, 100000, 65, api.ErrMany}, {"too many of each", 513, 100001, 65, api.ErrMany},
		{"a million gates", 1, 1 << 20, 1, api.ErrMany},
	} {
		checks(t, c.what, api.Circuit{Inputs: longInputs(c.inputs), Gates: longGates(c.gates), Outputs: make([]int, c.outputs)}, c.e)
	}
	checks(t, "empty lists", api.Circuit{Inputs: []api.CircuitInput{}, Gates: []api.CircuitGate{}, Outputs: []int{}}, api.OK)
}

func TestP4_1CheckInputs(t *testing.T) {
	in := func(name string, bit int) api.CircuitInput { return api.CircuitInput{Name: name, Bit: bit} }
	for _, c := range []struct {
		inputs []api.CircuitInput
		e      api.Errno
	}{
		{[]api.CircuitInput{in("a", 0), in("a", 1)}, api.OK}, {[]api.CircuitInput{in("a", 0), in("a", 63)}, api.OK}, {[]api.CircuitInput{in("a", 5), in("b", 0)}, api.OK}, {[]api.CircuitInput{in("a", 63), in("aa", 0), in("b", 0)}, api.OK},
		{[]api.CircuitInput{in("a", 1), in("a", 0)}, api.ErrBad}, {[]api.CircuitInput{in("a", 1), in("a", 1)}, api.ErrBad}, {[]api.CircuitInput{in("b", 0), in("a", 1)}, api.ErrBad}, {[]api.CircuitInput{in("b", 0), in("a", 0)}, api.ErrBad},
		{[]api.CircuitInput{in("a", 0), in("b", 0), in("a", 1)}, api.ErrBad}, {[]api.CircuitInput{in("a", 0), in("b", 0), in("b", 0)}, api.ErrBad}, {[]api.CircuitInput{in("a", 0), in("a", 0), in("b", 0)}, api.ErrBad}, {[]api.CircuitInput{in("aa", 0), in("a", 1)}, api.ErrBad},
		// The order of bytes: capital letters come first, and r. comes before r9, rA, r_ and ra.
		{[]api.CircuitInput{in("A", 9), in("Z", 3), in("a", 2)}, api.OK}, {[]api.CircuitInput{in("a", 0), in("A", 1)}, api.ErrBad},
		{[]api.CircuitInput{in("r", 9), in("r.a", 8), in("r9", 7), in("rA", 6), in("r_", 5), in("ra", 4)}, api.OK}, {[]api.CircuitInput{in("r9", 0), in("r.a", 1)}, api.ErrBad}, {[]api.CircuitInput{in("ra", 0), in("r.a", 1)}, api.ErrBad}, {[]api.CircuitInput{in("x10", 9), in("x9", 1)}, api.OK},
	} {
		checks(t, "", api.Circuit{Inputs: c.inputs}, c.e)
	}
	for bit, e := range map[int]api.Errno{0: api.OK, 1: api.OK, 62: api.OK, 63: api.OK, 64: api.ErrBad, 65: api.ErrBad, 1 << 32: api.ErrBad, -1: api.ErrBad, math.MaxInt: api.ErrBad, math.MinInt: api.ErrBad} {
		checks(t, "bit "+strconv.Itoa(bit), api.Circuit{Inputs: []api.CircuitInput{in("a", bit)}}, e)
	}
	// The last input is looked at as well.
	last := longInputs(512)
	last[511].Bit = 64
	checks(t, "the last bit", api.Circuit{Inputs: last}, api.ErrBad)
	last = longInputs(512)
	last[511].Name = "x"
	checks(t, "the last name", api.Circuit{Inputs: last}, api.ErrBad)
}

func TestP4_1CheckNames(t *testing.T) {
	long := strings.Repeat("x", 24)
	for _, s := range []string{"a", "Z9_", "r", "R", "pc", "rr", "r_", "r.a", "r.r", "r.R0_", long, "r." + long} {
		checks(t, s, api.Circuit{Inputs: []api.CircuitInput{{Name: s}}}, api.OK)
	}
	for _, s := range []string{"", "r.", ".", ".a", "a.b", "R.a", "rr.a", "r.r.a", "r.r.", "r..a", "r.9", "r._", "r. a", " r.a", "9", "_", "a ", "a-", "a:8", "é", "r.é", "a\x00", long + "x", "r." + long + "x", strings.Repeat("x", 5000)} {
		checks(t, s, api.Circuit{Inputs: []api.CircuitInput{{Name: s}}}, api.ErrBad)
	}
}

// TestP4_1CheckGates has two inputs, so that the first gate is node 3 and the second one is node 4.
func TestP4_1CheckGates(t *testing.T) {
	with := func(gates ...api.CircuitGate) api.Circuit { return api.Circuit{Inputs: longInputs(2), Gates: gates} }
	first, fine := api.CircuitGate{A: 2, B: 4}, []int{0, 1, 2, 3, 4, 5}
	for l := range 100 {
		e := api.ErrBad
		if slices.Contains(fine, l) {
			e = api.OK
		}
		what := "first gate: " + strconv.Itoa(l)
		checks(t, what, with(api.CircuitGate{A: l, B: 2}), e)
		checks(t, what, with(api.CircuitGate{A: 2, B: l}), e)
		checks(t, what, with(api.CircuitGate{A: l, B: l}), e)
		if l == 6 || l == 7 {
			e = api.OK
		}
		what = "second gate: " + strconv.Itoa(l)
		checks(t, what, with(first, api.CircuitGate{A: l, B: 2}), e)
		checks(t, what, with(first, api.CircuitGate{A: 2, B: l}), e)
	}
	for _, l := range []int{-1, -2, -7, -8, math.MinInt, math.MinInt + 1, math.MaxInt, math.MaxInt - 1, 1 << 32, 1<<32 + 2} {
		for _, g := range []api.CircuitGate{{A: l, B: 2}, {A: 2, B: l}, {A: l, B: l}, {A: l, B: 0}} {
			checks(t, "no literal: "+strconv.Itoa(l), with(g), api.ErrBad)
			checks(t, "no literal, later: "+strconv.Itoa(l), with(first, g), api.ErrBad)
			checks(t, "no literal, before: "+strconv.Itoa(l), with(g, first), api.ErrBad)
		}
	}
	// Without inputs, the first gate only has the literals of node 0.
	checks(t, "of node 0", api.Circuit{Gates: []api.CircuitGate{{A: 0, B: 1}, {A: 3, B: 2}}}, api.OK)
	checks(t, "of node 1", api.Circuit{Gates: []api.CircuitGate{{A: 2, B: 1}}}, api.ErrBad)
	last := longGates(100000)
	last[99999] = api.CircuitGate{A: 2*100000 - 1, B: 0}
	checks(t, "the last gate, of the one before it", api.Circuit{Gates: last}, api.OK)
	last[99999].A = 2 * 100000
	checks(t, "the last gate, of itself", api.Circuit{Gates: last}, api.ErrBad)
}

// TestP4_1CheckOutputs has two inputs and two gates, so five nodes.
func TestP4_1CheckOutputs(t *testing.T) {
	with := func(outputs ...int) api.Circuit {
		return api.Circuit{Inputs: longInputs(2), Gates: []api.CircuitGate{{A: 2, B: 4}, {A: 7, B: 1}}, Outputs: outputs}
	}
	for l := -20; l < 100; l++ {
		e := api.ErrBad
		if 0 <= l && l < 10 {
			e = api.OK
		}
		checks(t, strconv.Itoa(l), with(l), e)
		checks(t, strconv.Itoa(l)+" first", with(l, 9), e)
		checks(t, strconv.Itoa(l)+" last", with(9, 9, l), e)
	}
	for _, l := range []int{math.MinInt, math.MaxInt, 1 << 32, 1<<32 + 1} {
		checks(t, strconv.Itoa(l), with(l), api.ErrBad)
	}
	checks(t, "the constants", api.Circuit{Outputs: []int{0, 1, 0}}, api.OK)
	checks(t, "no node 1", api.Circuit{Outputs: []int{0, 2}}, api.ErrBad)
	most := with(make([]int, 64)...)
	most.Outputs[63] = 10
	checks(t, "the last output", most, api.ErrBad)
}

// TestP4_1CheckManyFirst has circuits that are not valid, and of which a list is too long besides.
func TestP4_1CheckManyFirst(t *testing.T) {
	badInput, badGate, badOutput := []api.CircuitInput{{Name: "9", Bit: -1}}, []api.CircuitGate{{A: -1, B: 99}}, []int{-1}
	for i, c := range []api.Circuit{
		{Inputs: badInput, Gates: longGates(100001)}, {Inputs: badInput, Outputs: make([]int, 65)}, {Inputs: make([]api.CircuitInput, 513)}, {Inputs: append(longInputs(512), badInput...)},
		{Inputs: longInputs(513), Gates: badGate}, {Gates: badGate, Outputs: make([]int, 65)}, {Gates: append(badGate, longGates(100000)...)}, {Gates: append(longGates(100000), badGate...)},
		{Inputs: longInputs(513), Outputs: badOutput}, {Gates: longGates(100001), Outputs: badOutput}, {Outputs: append(make([]int, 64), badOutput...)}, {Outputs: append(badOutput, make([]int, 64)...)},
		{Inputs: badInput, Gates: badGate, Outputs: append(badOutput, make([]int, 64)...)},
	} {
		checks(t, "circuit "+strconv.Itoa(i), c, api.ErrMany)
	}
	checks(t, "all are bad, none is too long", api.Circuit{Inputs: badInput, Gates: badGate, Outputs: badOutput}, api.ErrBad)
}

// valid is the definition of the chapter, for circuits whose lists are not too long.
func valid(c api.Circuit) bool {
	for i, in := range c.Inputs {
		if in.Bit < 0 || in.Bit > 63 || in.Name == "" || in.Name == "r." || in.Name == "9" {
			return false
		}
		for _, later := range c.Inputs[i+1:] {
			if later.Name < in.Name || later.Name == in.Name && later.Bit <= in.Bit {
				return false
			}
		}
	}
	n := 1 + len(c.Inputs)
	for i, g := range c.Gates {
		if min(g.A, g.B) < 0 || g.A/2 >= n+i || g.B/2 >= n+i {
			return false
		}
	}
	for _, output := range c.Outputs {
		if output < 0 || output/2 >= n+len(c.Gates) {
			return false
		}
	}
	return true
}

// spoil changes something of a circuit.
func (m maker) spoil(c *api.Circuit) {
	which := m.IntN(6)
	switch {
	case which == 0 && len(c.Inputs) > 0:
		c.Inputs[m.IntN(len(c.Inputs))].Bit = m.IntN(70) - 3
	case which == 1 && len(c.Inputs) > 0:
		c.Inputs[m.IntN(len(c.Inputs))].Name = []string{"", "9", "r.", "a", "b", "r.c"}[m.IntN(6)]
	case which == 2 && len(c.Gates) > 0:
		c.Gates[m.IntN(len(c.Gates))].A = m.IntN(30) - 2
	case which == 3 && len(c.Gates) > 0:
		c.Gates[m.IntN(len(c.Gates))].B = m.IntN(30) - 2
	case which == 4 && len(c.Outputs) > 0:
		c.Outputs[m.IntN(len(c.Outputs))] = m.IntN(30) - 2
	case which == 5 && len(c.Gates) > 0:
		c.Gates = c.Gates[:len(c.Gates)-1]
	}
}

func TestP4_1CheckByChance(t *testing.T) {
	m := newMaker(1)
	counts := map[api.Errno]int{}
	for range 20000 {
		c := m.circuit(m.IntN(5), m.IntN(6), m.IntN(4))
		for range m.IntN(3) {
			m.spoil(&c)
		}
		want := api.OK
		if !valid(c) {
			want = api.ErrBad
		}
		kept := twin(c)
		if e := blast.Check(c); e != want {
			t.Fatalf("%v: %d, not %d", c, e, want)
		}
		if !same(c, kept) {
			t.Fatalf("%v was changed", kept)
		}
		counts[want]++
	}
	if counts[api.OK] < 5000 || counts[api.ErrBad] < 5000 {
		t.Error(counts)
	}
}
