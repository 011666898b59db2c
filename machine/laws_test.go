package machine_test

import (
	"math"
	"reflect"
	"slices"
	"testing"

	"retarget/api"
	"retarget/machine"
)

func TestP8_7Given(t *testing.T) {
	for _, k := range []int{0, 1, 2, 3, -1, math.MaxInt} {
		checks(t, api.Given(k), "given", api.OK)
	}
}

// bitsOf returns the bits that a register is: pairs of a root and a place in it.
func bitsOf(m api.Machine, reg int) map[[2]int]bool {
	r := m.Regs[reg]
	of := r.Of
	if of == -1 {
		of = reg
	}
	all := map[[2]int]bool{}
	for i := range r.Width {
		all[[2]int{of, r.Low + i}] = true
	}
	return all
}

// TestP8_7Overlap holds each pair of registers against their bits.
func TestP8_7Overlap(t *testing.T) {
	m := newMaker(6)
	for k := range 60 {
		d := m.registers(6)
		if k < 5 {
			d = machines()[k]
		}
		for a := range d.Regs {
			overlaps(t, d, a, a, true)
			for b := range d.Regs {
				common := false
				of := bitsOf(d, b)
				for bit := range bitsOf(d, a) {
					common = common || of[bit]
				}
				overlaps(t, d, a, b, common)
			}
		}
	}
}

// TestP8_7Part puts a register together again from what Part and Roots say.
func TestP8_7Part(t *testing.T) {
	m := newMaker(7)
	for range 100 {
		d := m.registers(10)
		roots := must(machine.Roots(d))
		if !slices.IsSorted(roots) {
			t.Error(roots)
		}
		for reg, r := range d.Regs {
			of, low := reg, 0
			if r.Of != -1 {
				of, low = r.Of, r.Low
			} else if !slices.Contains(roots, reg) {
				t.Errorf("%v without %d", roots, reg)
			}
			isPart(t, d, reg, slices.Index(roots, of), low, r.Width)
		}
	}
}

// readAll returns the values of all registers.
func readAll(d api.Machine, roots []uint64) []uint64 {
	var l []uint64
	for reg := range d.Regs {
		l = append(l, must(machine.Read(d, roots, reg)))
	}
	return l
}

func TestP8_7ReadAndWrite(t *testing.T) {
	m := newMaker(8)
	all := machines()
	for k := range 600 {
		d := m.registers(5)
		if k < 40 {
			d = all[k%5]
		}
		roots := m.values(d)
		before := readAll(d, roots)
		reg := m.IntN(len(d.Regs))
		x, y := m.bits(d.Regs[reg].Width), m.bits(d.Regs[reg].Width)
		written := must(machine.Write(d, roots, reg, x))
		reads(t, d, written, reg, x, api.OK)
		writes(t, d, written, reg, y, api.OK, must(machine.Write(d, roots, reg, y))...)
		writes(t, d, written, reg, before[reg], api.OK, roots...)
		writes(t, d, written, reg, x, api.OK, written...)
		for other, was := range before {
			writes(t, d, roots, other, was, api.OK, roots...)
			if !must(machine.Overlap(d, reg, other)) {
				reads(t, d, written, other, was, api.OK)
				z := m.bits(d.Regs[other].Width)
				first, second := must(machine.Write(d, written, other, z)), must(machine.Write(d, must(machine.Write(d, roots, other, z)), reg, x))
				if !slices.Equal(first, second) {
					t.Errorf("%v: %d and %d in another order: %x, %x", d.Regs, reg, other, first, second)
				}
			}
		}
	}
}

// TestP8_7Bits finds each bit of each register after a write where it was, or as it was written.
func TestP8_7Bits(t *testing.T) {
	m := newMaker(9)
	for range 200 {
		d := m.registers(4)
		roots := m.values(d)
		places := must(machine.Roots(d))
		bit := func(roots []uint64, at [2]int) uint64 { return roots[slices.Index(places, at[0])] >> at[1] & 1 }
		for reg, r := range d.Regs {
			x := m.bits(r.Width)
			written := must(machine.Write(d, roots, reg, x))
			mine := bitsOf(d, reg)
			value := must(machine.Read(d, roots, reg))
			for root := range places {
				for i := range d.Regs[places[root]].Width {
					at := [2]int{places[root], i}
					want := bit(roots, at)
					if mine[at] {
						if value>>(i-r.Low)&1 != want {
							t.Errorf("%v %x: bit %d of %d in %x", d.Regs, roots, i, reg, value)
						}
						want = x >> (i - r.Low) & 1
					}
					if bit(written, at) != want {
						t.Errorf("%v %x: bit %v after %x to %d: %x", d.Regs, roots, at, x, reg, written)
					}
				}
			}
		}
	}
}

// A call has the results of a function: its error, and whether the others are zero.
type call struct {
	name string
	e    api.Errno
	zero bool
}

// calls makes all calls with a machine that may have an error.
func calls(m api.Machine, op api.MachOp, roots []uint64, reg, other int, x uint64, name string) []call {
	r, e1 := machine.Register(m, name)
	i, e2 := machine.Instruction(m, name)
	l, e3 := machine.Roots(m)
	root, low, width, e4 := machine.Part(m, reg)
	is, e5 := machine.Overlap(m, reg, other)
	v, e6 := machine.Read(m, roots, reg)
	w, e7 := machine.Write(m, roots, reg, x)
	b, e8 := machine.Vars(m, op, x)
	return []call{
		{"Register", e1, r == 0}, {"Instruction", e2, i == 0}, {"Roots", e3, len(l) == 0}, {"Part", e4, root == 0 && low == 0 && width == 0}, {"Overlap", e5, !is},
		{"Read", e6, v == 0}, {"Write", e7, len(w) == 0}, {"Vars", e8, len(b) == 0}, {"CheckOp", machine.CheckOp(m, op), true},
	}
}

// TestR1CheckFirst has machines that are wrong, with arguments that are right and with some that are wrong.
func TestR1CheckFirst(t *testing.T) {
	for want, l := range broken() {
		for _, m := range l {
			checks(t, m, "broken", want)
			right := calls(m, op(sample(), "none"), []uint64{1, 1, 1, 1}, 0, 0, 1, "low")
			wrong := calls(m, api.MachOp{Instr: -1, Args: make([]int, 9)}, nil, -1, 99, math.MaxUint64, "")
			for _, c := range append(right, wrong...) {
				if c.e != want || !c.zero {
					t.Errorf("%s: %d %v", c.name, c.e, c.zero)
				}
			}
		}
	}
}

// TestR7ByChance makes all calls with machines and arguments of all sorts: no call panics, and none has a value beside an error.
func TestR7ByChance(t *testing.T) {
	m := newMaker(10)
	numbers := []int{0, 1, -1, 2, 7, 8, 63, 64, math.MaxInt, math.MinInt}
	for range 5000 {
		d := copyOf(sample())
		for range m.IntN(3) {
			s := pick(m, spots(&d))
			s.Set(pick(m, s.others()))
		}
		e := machine.Check(d)
		op := m.op(sample())
		if m.IntN(2) == 0 {
			op = api.MachOp{Instr: pick(m, numbers), Args: []int{pick(m, numbers), pick(m, numbers)}}
		}
		roots := []uint64{m.bits(32), m.bits(1), m.bits(16), m.bits(64), 0}[:5-m.IntN(2)]
		for _, c := range calls(d, op, roots, pick(m, numbers), pick(m, numbers), m.bits(1+m.IntN(64)), pick(m, []string{"", "low", "mix", "x"})) {
			if c.e != api.OK && !c.zero || e != api.OK && c.e != e {
				t.Fatalf("%s: %d %v, and Check's error is %d", c.name, c.e, c.zero, e)
			}
		}
		same(t, "a twin", d, machine.Twin(d), true)
	}
}

// endless returns a term with many times itself as its parts.
func endless(many int) api.Term {
	parts := make([]api.Term, many)
	t := api.Term{Kind: api.TermAdd, Width: 16, Sub: parts}
	for i := range parts {
		parts[i] = t
	}
	return t
}

// TestR7Great has machines far beyond the limits, and terms that contain themselves.
func TestR7Great(t *testing.T) {
	const many = 1 << 17
	for k, change := range []func(m *api.Machine){
		func(m *api.Machine) { m.Regs = make([]api.MachReg, many) },
		func(m *api.Machine) { m.Banks = make([]api.MachBank, many) },
		func(m *api.Machine) { m.Banks[1].Regs = make([]int, many) },
		func(m *api.Machine) { m.Units = make([]api.MachUnit, many) },
		func(m *api.Machine) { m.Instrs = slices.Repeat(m.Instrs, many/8) },
		func(m *api.Machine) { m.Instrs[3].Operands = make([]api.MachOperand, many) },
		func(m *api.Machine) { m.Instrs[0].Operands[0].Pieces = make([]api.MachPiece, many) },
		func(m *api.Machine) { m.Instrs[3].Effects = make([]api.MachEffect, many) },
	} {
		m := sample()
		change(&m)
		checks(t, m, "great", api.ErrMany)
		same(t, "great", m, sample(), false)
		same(t, "great", m, machine.Twin(m), true)
		for _, c := range calls(m, api.MachOp{}, nil, 0, 0, 0, "low") {
			if c.e != api.ErrMany || !c.zero {
				t.Errorf("%d %s: %d", k, c.name, c.e)
			}
		}
	}
	for _, change := range []func(f *api.MachEffect){
		func(f *api.MachEffect) { f.Value = endless(2) },
		func(f *api.MachEffect) { f.Addr = endless(1) },
		func(f *api.MachEffect) { f.Cond = endless(3) },
	} {
		m, n := sample(), sample()
		change(&m.Instrs[0].Effects[3])
		change(&n.Instrs[0].Effects[3])
		checks(t, m, "endless", api.ErrBad)
		same(t, "endless", m, n, true)
		same(t, "endless", m, sample(), false)
		machine.Twin(m)
	}
	m := sample()
	m.Instrs[0].Effects[3].Value = deep(100000)
	checks(t, m, "deep", api.ErrBad)
	same(t, "deep", m, machine.Twin(m), true)
	writes(t, sample(), make([]uint64, many), 0, 0, api.ErrWidth)
	fits(t, sample(), api.ErrArg, api.MachOp{Args: make([]int, many)})
}

// deep returns a term that is this deep.
func deep(depth int) api.Term {
	x := parse("pc:16")
	for range depth - 1 {
		x = api.Term{Kind: api.TermNot, Width: 16, Sub: []api.Term{x}}
	}
	return x
}

// TestR2Arguments has lists with room for more, which are only read.
func TestR2Arguments(t *testing.T) {
	m := newMaker(11)
	for _, d := range []api.Machine{filled(sample()), filled(api.Given(1)), filled(strange())} {
		kept := wholeOf(d)
		for range 200 {
			op := m.op(sample())
			op.Args = append(op.Args, 5, 6)[:len(op.Args)]
			roots := append(m.values(sample()), 7, 8)
			args, values := slices.Clone(op.Args[:len(op.Args)+2]), slices.Clone(roots)
			calls(d, op, roots[:4], m.IntN(8), m.IntN(8), m.bits(1+m.IntN(16)), "low")
			machine.Same(d, d)
			machine.Twin(d)
			if !slices.Equal(op.Args[:len(op.Args)+2], args) || !slices.Equal(roots, values) {
				t.Fatalf("%v or %v was changed", args, values)
			}
		}
		if !reflect.DeepEqual(wholeOf(d), kept) {
			t.Errorf("%s was changed", d.Name)
		}
	}
}

// TestR2Results spoils what is returned, and makes the same calls again.
func TestR2Results(t *testing.T) {
	m := sample()
	roots := append([]uint64{1, 1, 1, 1}, 9, 9)
	mix := op(m, "mix", regP, regP, 2, 8)
	for range 3 {
		l := must(machine.Roots(m))
		if !slices.Equal(l, []int{regA, regFlag, regP, regW}) {
			t.Error(l)
		}
		w := must(machine.Write(m, roots[:4], regP, 1))
		if !slices.Equal(w, []uint64{1, 1, 1, 1}) || !slices.Equal(roots, []uint64{1, 1, 1, 1, 9, 9}) {
			t.Error(w, roots)
		}
		v := must(machine.Vars(m, mix, 5))
		if !slices.Equal(v, []api.Binding{{Name: "n", Width: 16, Bits: 2}, {Name: "u", Width: 16, Bits: 8}, {Name: "pc", Width: 16, Bits: 5}}) {
			t.Error(v)
		}
		l, w, v = l[:cap(l)], w[:cap(w)], v[:cap(v)]
		for i := range l {
			l[i] = -7
		}
		for i := range w {
			w[i] = 7
		}
		for i := range v {
			v[i] = api.Binding{Name: "spoilt"}
		}
		same(t, "a machine", m, sample(), true)
	}
}
