package blast_test

import (
	"math"
	"slices"
	"strconv"
	"testing"

	"retarget/api"
	"retarget/blast"
)

// broken returns circuits with an error of Check, and circuits without one are not among them.
func broken() map[string]api.Circuit {
	return map[string]api.Circuit{
		"too many inputs": {Inputs: longInputs(513)}, "too many gates": {Gates: longGates(100001)}, "too many outputs": {Outputs: make([]int, 65)},
		"no name": {Inputs: []api.CircuitInput{{Name: "9"}}, Outputs: []int{0}}, "no bit": {Inputs: []api.CircuitInput{{Name: "a", Bit: 64}}, Outputs: []int{0}}, "twice": {Inputs: []api.CircuitInput{{Name: "a"}, {Name: "a"}}, Outputs: []int{0}},
		"a gate of itself": {Gates: []api.CircuitGate{{A: 2, B: 0}}, Outputs: []int{0}}, "a gate of a later one": {Gates: []api.CircuitGate{{A: 0, B: 4}, {}}, Outputs: []int{0}}, "no literal": {Gates: []api.CircuitGate{{A: 0, B: -1}}, Outputs: []int{0}},
		"no output": {Outputs: []int{2}}, "a negative output": {Outputs: []int{0, -1}}, "the greatest output": {Outputs: []int{math.MaxInt}}, "too long and not valid": {Inputs: make([]api.CircuitInput, 513), Outputs: []int{0}},
	}
}

func TestP4_2RunOfEachGate(t *testing.T) {
	for a := range 6 {
		for b := range 6 {
			c := api.Circuit{Inputs: longInputs(2), Gates: []api.CircuitGate{{A: a, B: b}}, Outputs: []int{6, 7, a, b, 0, 1}}
			assignments(2, func(in []bool) {
				of := func(l int) bool { return []bool{false, true, in[0], !in[0], in[1], !in[1]}[l] }
				want := []bool{of(a) && of(b), !(of(a) && of(b)), of(a), of(b), false, true}
				if out, e := blast.Run(c, in); e != api.OK || !slices.Equal(out, want) {
					t.Errorf("%d and %d of %v: %v %d", a, b, in, out, e)
				}
			})
		}
	}
}

func TestP4_2RunByChance(t *testing.T) {
	m := newMaker(2)
	for range 3000 {
		many := m.IntN(6)
		c := m.circuit(many, m.IntN(40), m.IntN(65))
		assignments(many, func(in []bool) {
			nodes := values(c, in)
			out, e := blast.Run(c, in)
			if e != api.OK || len(out) != len(c.Outputs) {
				t.Fatalf("%v of %v: %v %d", c, in, out, e)
			}
			for i, output := range c.Outputs {
				if out[i] != literal(nodes, output) {
					t.Fatalf("%v of %v: %v", c, in, out)
				}
			}
		})
	}
}

func TestP4_2RunOfTheGreatest(t *testing.T) {
	// Each gate is the one before it inverted, so that the last one is true if there are evenly many and the input is.
	c := api.Circuit{Inputs: longInputs(512), Gates: longGates(100000)}
	for i := range c.Gates {
		before := 2 * (512 + i)
		c.Gates[i] = api.CircuitGate{A: before + 1, B: before + 1}
	}
	for i := range 64 {
		c.Outputs = append(c.Outputs, 2*(512+100000-i))
	}
	in := make([]bool, 512)
	for _, last := range []bool{false, true} {
		in[511] = last
		out, e := blast.Run(c, in)
		if e != api.OK || len(out) != 64 {
			t.Fatal(len(out), e)
		}
		for i := range out {
			if out[i] != (last == (i%2 == 0)) {
				t.Errorf("output %d with %v", i, last)
			}
		}
	}
}

func TestP4_2RunErrors(t *testing.T) {
	c := api.Circuit{Inputs: longInputs(3), Gates: []api.CircuitGate{{A: 2, B: 4}}, Outputs: []int{8}}
	for many := range 10 {
		out, e := blast.Run(c, make([]bool, many))
		if many == 3 && (e != api.OK || len(out) != 1) || many != 3 && (e != api.ErrArg || len(out) != 0) {
			t.Errorf("%d values: %v %d", many, out, e)
		}
	}
	for what, c := range broken() {
		for _, in := range [][]bool{nil, {true}, make([]bool, len(c.Inputs)), make([]bool, 1000)} {
			if out, e := blast.Run(c, in); e != blast.Check(c) || e == api.OK || len(out) != 0 {
				t.Errorf("%s: %v %d", what, out, e)
			}
		}
	}
	constant := api.Circuit{Outputs: []int{1, 0}}
	for _, in := range [][]bool{nil, {}} {
		if out, e := blast.Run(constant, in); e != api.OK || !slices.Equal(out, []bool{true, false}) {
			t.Errorf("no inputs: %v %d", out, e)
		}
		if out, e := blast.Run(api.Circuit{}, in); e != api.OK || len(out) != 0 {
			t.Errorf("nothing: %v %d", out, e)
		}
	}
	if out, e := blast.Run(constant, []bool{true}); e != api.ErrArg || len(out) != 0 {
		t.Errorf("a value without an input: %v %d", out, e)
	}
}

func TestP4_2Inputs(t *testing.T) {
	env := []api.Binding{{Name: "A", Width: 8, Bits: 0xa5}, {Name: "a", Width: 64, Bits: 1<<63 | 1<<31 | 1}, {Name: "b", Width: 1, Bits: 1}, {Name: "r.a", Width: 2, Bits: 2}, {Name: "ra", Width: 2, Bits: 1}}
	var all []api.CircuitInput
	var want []bool
	for _, b := range env {
		for bit := range b.Width {
			all, want = append(all, api.CircuitInput{Name: b.Name, Bit: bit}), append(want, b.Bits/(1<<bit)%2 == 1)
		}
	}
	if in, e := blast.Inputs(api.Circuit{Inputs: all}, env); e != api.OK || !slices.Equal(in, want) {
		t.Errorf("all bits: %v %d", in, e)
	}
	for i := range all {
		if in, e := blast.Inputs(api.Circuit{Inputs: all[i : i+1]}, env); e != api.OK || !slices.Equal(in, want[i:i+1]) {
			t.Errorf("%v: %v %d", all[i], in, e)
		}
	}
	some := api.Circuit{Inputs: []api.CircuitInput{{Name: "A", Bit: 2}, {Name: "a", Bit: 63}, {Name: "r.a", Bit: 0}, {Name: "r.a", Bit: 1}}}
	if in, e := blast.Inputs(some, env); e != api.OK || !slices.Equal(in, []bool{true, true, false, true}) {
		t.Errorf("some bits: %v %d", in, e)
	}
	for _, env := range [][]api.Binding{nil, {}, env} {
		if in, e := blast.Inputs(api.Circuit{Outputs: []int{1}}, env); e != api.OK || len(in) != 0 {
			t.Errorf("no inputs: %v %d", in, e)
		}
	}
}

// bindings returns this many bindings of the width 64, whose values are 0, 1, 2 ..
func bindings(many int) []api.Binding {
	var env []api.Binding
	for i := range many {
		env = append(env, api.Binding{Name: "x" + strconv.Itoa(1000+i), Width: 64, Bits: uint64(i)})
	}
	return env
}

func TestP4_2InputsOfManyBindings(t *testing.T) {
	env := bindings(1000)
	for i, b := range env {
		var c api.Circuit
		for bit := range 64 {
			c.Inputs = append(c.Inputs, api.CircuitInput{Name: b.Name, Bit: bit})
		}
		in, e := blast.Inputs(c, env)
		if e != api.OK || len(in) != 64 {
			t.Fatal(b, in, e)
		}
		for bit := range in {
			if in[bit] != (i>>bit%2 == 1) {
				t.Errorf("%v: bit %d", b, bit)
			}
		}
	}
}

func TestP4_2InputsErrors(t *testing.T) {
	a, b := api.Binding{Name: "a", Width: 4, Bits: 15}, api.Binding{Name: "b", Width: 8, Bits: 1}
	in := func(name string, bit int) api.CircuitInput { return api.CircuitInput{Name: name, Bit: bit} }
	both := []api.Binding{a, b}
	for _, c := range []struct {
		what   string
		inputs []api.CircuitInput
		env    []api.Binding
		e      api.Errno
	}{
		{"no bindings", []api.CircuitInput{in("a", 0)}, nil, api.ErrName}, {"another name", []api.CircuitInput{in("a", 0)}, []api.Binding{b}, api.ErrName}, {"a name behind", []api.CircuitInput{in("c", 0)}, both, api.ErrName}, {"a name between", []api.CircuitInput{in("aa", 0)}, both, api.ErrName}, {"a capital letter", []api.CircuitInput{in("A", 0)}, both, api.ErrName}, {"a register", []api.CircuitInput{in("r.a", 0)}, both, api.ErrName},
		{"the last bit", []api.CircuitInput{in("a", 3)}, both, api.OK}, {"bit 4 of 4", []api.CircuitInput{in("a", 4)}, both, api.ErrArg}, {"bit 63 of 4", []api.CircuitInput{in("a", 63)}, both, api.ErrArg}, {"bit 8 of 8", []api.CircuitInput{in("b", 8)}, both, api.ErrArg}, {"bit 7 of 8", []api.CircuitInput{in("b", 7)}, both, api.OK}, {"bit 1 of 1", []api.CircuitInput{in("a", 1)}, []api.Binding{{Name: "a", Width: 1}}, api.ErrArg},
		{"later ones are looked at", []api.CircuitInput{in("a", 0), in("a", 1), in("b", 8)}, both, api.ErrArg}, {"and their names", []api.CircuitInput{in("a", 0), in("a", 1), in("c", 8)}, both, api.ErrName},
		{"first a bit, then a name", []api.CircuitInput{in("a", 4), in("c", 0)}, both, api.ErrArg}, {"first a name, then a bit", []api.CircuitInput{in("a", 0), in("b", 8)}, []api.Binding{a}, api.ErrName}, {"first a name, then a bit of another", []api.CircuitInput{in("A", 0), in("b", 8)}, both, api.ErrName}, {"first a bit that is none for the whole name", []api.CircuitInput{in("a", 9), in("b", 9)}, both, api.ErrArg},
		{"bindings out of order", []api.CircuitInput{in("a", 0)}, []api.Binding{b, a}, api.ErrBad}, {"a binding twice", []api.CircuitInput{in("a", 0)}, []api.Binding{a, a}, api.ErrBad}, {"no value of its width", []api.CircuitInput{in("a", 0)}, []api.Binding{{Name: "a", Width: 4, Bits: 16}}, api.ErrBad}, {"no width", []api.CircuitInput{in("a", 0)}, []api.Binding{{Name: "a"}}, api.ErrBad}, {"no name of a variable", []api.CircuitInput{in("a", 0)}, []api.Binding{{Name: "9", Width: 1}}, api.ErrBad},
		{"bad bindings, a bit that is none", []api.CircuitInput{in("a", 4)}, []api.Binding{a, {Name: "c"}}, api.ErrBad}, {"bad bindings, a name that is not bound", []api.CircuitInput{in("z", 0)}, []api.Binding{b, a}, api.ErrBad}, {"bad bindings, no inputs", nil, []api.Binding{b, a}, api.ErrBad},
		{"1000 bindings", []api.CircuitInput{in("x1999", 3)}, bindings(1000), api.OK}, {"1001 bindings", []api.CircuitInput{in("x1999", 3)}, bindings(1001), api.ErrBad}, {"1001 bindings, and no such name", []api.CircuitInput{in("a", 0)}, bindings(1001), api.ErrBad},
	} {
		got, e := blast.Inputs(api.Circuit{Inputs: c.inputs}, c.env)
		if e != c.e || e == api.OK && len(got) != len(c.inputs) || e != api.OK && len(got) != 0 {
			t.Errorf("%s: %v %d", c.what, got, e)
		}
	}
	for what, c := range broken() {
		for _, env := range [][]api.Binding{nil, both, {b, a}, bindings(1001)} {
			if got, e := blast.Inputs(c, env); e != blast.Check(c) || e == api.OK || len(got) != 0 {
				t.Errorf("%s: %v %d", what, got, e)
			}
		}
	}
}

// TestP4_2Memory spoils results, and has lists with room for more: no argument is changed.
func TestP4_2Memory(t *testing.T) {
	m := newMaker(3)
	for range 2000 {
		many := 1 + m.IntN(6)
		c := m.circuit(many, m.IntN(20), 1+m.IntN(10))
		room := m.IntN(40)
		c.Inputs, c.Gates, c.Outputs = roomy(c.Inputs, room, api.CircuitInput{Name: "beyond"}), roomy(c.Gates, room, api.CircuitGate{A: -7, B: -7}), roomy(c.Outputs, room, -7)
		env := roomy([]api.Binding{{Name: "a", Width: 64, Bits: m.Uint64()}, {Name: "b", Width: 64, Bits: m.Uint64()}, {Name: "r.c", Width: 64, Bits: m.Uint64()}}, room, api.Binding{Name: "beyond"})
		kept, keptEnv := api.Circuit{Inputs: whole(c.Inputs), Gates: whole(c.Gates), Outputs: whole(c.Outputs)}, slices.Clone(whole(env))
		kept = twin(kept)
		in := must(blast.Inputs(c, env))
		want := slices.Clone(in)
		in = roomy(in, room, true)
		keptIn := slices.Clone(whole(in))
		out := must(blast.Run(c, in))
		wantOut := slices.Clone(out)
		for i := range whole(out) {
			whole(out)[i] = !whole(out)[i]
		}
		if !slices.Equal(whole(in), keptIn) {
			t.Fatalf("the values %v became %v", keptIn, whole(in))
		}
		if again := must(blast.Run(c, in)); !slices.Equal(again, wantOut) {
			t.Fatalf("%v, and then %v", wantOut, again)
		}
		for i := range whole(in) {
			whole(in)[i] = !whole(in)[i]
		}
		if again := must(blast.Inputs(c, env)); !slices.Equal(again, want) {
			t.Fatalf("%v, and then %v", want, again)
		}
		if !same(api.Circuit{Inputs: whole(c.Inputs), Gates: whole(c.Gates), Outputs: whole(c.Outputs)}, kept) || !slices.Equal(whole(env), keptEnv) {
			t.Fatal("an argument was changed")
		}
	}
}
