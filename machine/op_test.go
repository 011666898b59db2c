package machine_test

import (
	"math"
	"math/big"
	"slices"
	"testing"

	"retarget/api"
	"retarget/machine"
)

// op returns an op of the instruction of m with the name.
func op(m api.Machine, name string, args ...int) api.MachOp {
	return api.MachOp{Instr: slices.IndexFunc(m.Instrs, func(i api.MachInstr) bool { return i.Name == name }), Args: args}
}

// fits fails unless CheckOp, and Vars, return this error.
func fits(t *testing.T, m api.Machine, want api.Errno, op api.MachOp) {
	t.Helper()
	if e := machine.CheckOp(m, op); e != want {
		t.Errorf("%s %v: %d, not %d", m.Name, op, e, want)
	}
	if l, e := machine.Vars(m, op, 0); e != want || e != api.OK && len(l) != 0 {
		t.Errorf("variables of %s %v: %v %d, not %d", m.Name, op, l, e, want)
	}
}

func TestP8_2Examples(t *testing.T) {
	m := api.Given(1)
	fits(t, m, api.OK, op(m, "movi", 2, -64))
	fits(t, m, api.ErrRange, op(m, "movi", 2, -65))
	fits(t, m, api.OK, op(m, "movi", 2, 63))
	fits(t, m, api.ErrRange, op(m, "movi", 2, 64))
}

func TestP8_2Instruction(t *testing.T) {
	for _, m := range machines() {
		for _, k := range []int{-1, -2, len(m.Instrs), len(m.Instrs) + 1, math.MaxInt, math.MinInt} {
			fits(t, m, api.ErrNone, api.MachOp{Instr: k})
			fits(t, m, api.ErrNone, api.MachOp{Instr: k, Args: []int{1, 2, 3, 4, 5}})
		}
	}
}

func TestP8_2NumberOfArguments(t *testing.T) {
	m := sample()
	for k, i := range m.Instrs {
		for n := range 7 {
			if n != len(i.Operands) {
				fits(t, m, api.ErrArg, api.MachOp{Instr: k, Args: make([]int, n)})
				fits(t, m, api.ErrArg, api.MachOp{Instr: k, Args: slices.Repeat([]int{math.MinInt}, n)})
			}
		}
	}
	fits(t, m, api.OK, op(m, "none"))
	fits(t, m, api.OK, api.MachOp{Instr: 3, Args: []int{}})
}

func TestP8_2Arguments(t *testing.T) {
	m := sample()
	for _, c := range []struct {
		op   api.MachOp
		want api.Errno
	}{
		{op(m, "mix", regHigh, regHigh, 0, 0), api.OK},
		{op(m, "mix", regP, regP, -32, 248), api.OK},
		{op(m, "mix", regLow, regLow, 30, 8), api.OK},
		{op(m, "mix", regHigh, regP, 0, 0), api.ErrDiff},
		{op(m, "mix", regHigh, regMid, 0, 0), api.ErrName},
		{op(m, "mix", regHigh, -1, 0, 0), api.ErrName},
		{op(m, "mix", regMid, regMid, 0, 0), api.ErrName},
		{op(m, "mix", regA, regA, 0, 0), api.ErrName},
		{op(m, "mix", -1, -1, 0, 0), api.ErrName},
		{op(m, "mix", 8, 8, 0, 0), api.ErrName},
		{op(m, "mix", math.MaxInt, math.MaxInt, 0, 0), api.ErrName},
		{op(m, "mix", regHigh, regHigh, 31, 0), api.ErrRange},
		{op(m, "mix", regHigh, regHigh, 32, 0), api.ErrRange},
		{op(m, "mix", regHigh, regHigh, -34, 0), api.ErrRange},
		{op(m, "mix", regHigh, regHigh, -1, 0), api.ErrRange},
		{op(m, "mix", regHigh, regHigh, math.MinInt, 0), api.ErrRange},
		{op(m, "mix", regHigh, regHigh, 0, -8), api.ErrRange},
		{op(m, "mix", regHigh, regHigh, 0, 256), api.ErrRange},
		{op(m, "mix", regHigh, regHigh, 0, 4), api.ErrRange},
		{op(m, "mix", regHigh, regHigh, 0, 249), api.ErrRange},
		{op(m, "mix", regHigh, regHigh, 0, math.MaxInt-7), api.ErrRange},
		// The first argument that is wrong counts.
		{op(m, "mix", regHigh, regP, 99, 0), api.ErrDiff},
		{op(m, "mix", regMid, regP, 99, 4), api.ErrName},
		{op(m, "mix", regMid, regMid, 99, 4), api.ErrName},
		{op(m, "go", 2047), api.OK},
		{op(m, "go", -2048), api.OK},
		{op(m, "go", 2048), api.ErrRange},
		{op(m, "go", -2049), api.ErrRange},
		{op(m, "puts", regTop), api.OK},
		{op(m, "puts", regFlag), api.OK},
		{op(m, "puts", regP), api.ErrName},
		{op(m, "load", regLow, regP), api.OK},
		{op(m, "load", regP, regTop), api.ErrName},
	} {
		fits(t, m, c.want, c.op)
	}
}

// TestP8_2WrongBeforeName has a number that is wrong before a register that is.
func TestP8_2WrongBeforeName(t *testing.T) {
	m := operands(field("n", api.OperandUnsigned, 0, 0, 0, 3), field("d", api.OperandReg, 0, 0, 3, 2), tied("c", 0, 1))()
	fits(t, m, api.ErrRange, op(m, "more", 8, regA, regA))
	fits(t, m, api.ErrName, op(m, "more", 7, regA, regA))
	fits(t, m, api.ErrName, op(m, "more", 7, regP, regA))
	fits(t, m, api.ErrDiff, op(m, "more", 7, regP, regLow))
	fits(t, m, api.OK, op(m, "more", 7, regP, regP))
}

// fieldOnly returns a machine with one instruction, which has one operand of a kind, with this many bits and a scale.
func fieldOnly(kind uint8, width, scale int) api.Machine {
	m := tiny()
	m.Word, m.Address = 4, 32
	o := field("n", kind, 0, scale, 0, width)
	if width > 3 {
		o = field("n", kind, 0, scale, 32-width+3, width-3, 0, 3)
	}
	m.Instrs = []api.MachInstr{{Name: "i", Busy: 1, Latency: 1, Operands: []api.MachOperand{o}}}
	return m
}

func TestP8_2Ranges(t *testing.T) {
	for width := 1; width <= 32; width++ {
		for scale := 0; scale <= api.MaxScale && scale+width <= 32; scale++ {
			for _, kind := range []uint8{api.OperandSigned, api.OperandUnsigned, api.OperandJump} {
				m := fieldOnly(kind, width, scale)
				low, high := numbers(m.Instrs[0].Operands[0])
				step := 1 << scale
				for _, x := range []int{low, high, 0, low + step, high - step} {
					if low <= x && x <= high {
						fits(t, m, api.OK, api.MachOp{Args: []int{x}})
					}
				}
				for _, x := range []int{low - step, high + step, low - 1, high + 1, low - 1<<32, high + 1<<32, math.MaxInt - step + 1, math.MinInt} {
					fits(t, m, api.ErrRange, api.MachOp{Args: []int{x}})
				}
				for x := 1; x < step; x++ {
					fits(t, m, api.ErrRange, api.MachOp{Args: []int{x}})
					fits(t, m, api.ErrRange, api.MachOp{Args: []int{low + x}})
				}
			}
		}
	}
}

func TestP8_2ByChance(t *testing.T) {
	m := newMaker(4)
	met := map[api.Errno]int{}
	all := machines()
	for range 10000 {
		d := pick(m, all)
		op := m.op(d)
		want := referenceOp(d, op)
		met[want]++
		fits(t, d, want, op)
	}
	for _, e := range []api.Errno{api.OK, api.ErrNone, api.ErrArg, api.ErrName, api.ErrDiff, api.ErrRange} {
		if met[e] < 100 {
			t.Error(met)
		}
	}
}

// vars fails unless Vars returns these bindings.
func vars(t *testing.T, m api.Machine, op api.MachOp, pc uint64, want ...api.Binding) {
	t.Helper()
	if l, e := machine.Vars(m, op, pc); e != api.OK || !slices.Equal(l, want) {
		t.Errorf("%s %v at %d: %v %d, not %v", m.Name, op, pc, l, e, want)
	}
}

func TestP8_5Vars(t *testing.T) {
	bind := func(name string, x uint64) api.Binding { return api.Binding{Name: name, Width: 16, Bits: x} }
	m := sample()
	vars(t, m, op(m, "none"), 0, bind("pc", 0))
	vars(t, m, op(m, "none"), 65535, bind("pc", 65535))
	vars(t, m, op(m, "load", regP, regP), 7, bind("pc", 7))
	vars(t, m, op(m, "mix", regP, regP, -2, 248), 40000, bind("n", 65534), bind("u", 248), bind("pc", 40000))
	vars(t, m, op(m, "mix", regP, regP, 30, 0), 1, bind("n", 30), bind("u", 0), bind("pc", 1))
	vars(t, m, op(m, "go", 0), 100, bind("to", 103), bind("pc", 100))
	vars(t, m, op(m, "go", -1), 100, bind("to", 100), bind("pc", 100))
	vars(t, m, op(m, "go", -2048), 0, bind("to", 65536+3-3*2048), bind("pc", 0))
	vars(t, m, op(m, "go", 2047), 65535, bind("to", 3*2048-1), bind("pc", 65535))
	vars(t, m, op(m, "go", 0), 65533, bind("to", 0), bind("pc", 65533))
}

func TestP8_5Examples(t *testing.T) {
	bind := func(name string, x uint64) api.Binding { return api.Binding{Name: name, Width: 32, Bits: x} }
	m := api.Given(0)
	vars(t, m, op(m, "jump", -2), 100, bind("to", 96), bind("pc", 100))
	vars(t, m, op(m, "jump", -2), 0, bind("to", 1<<32-4), bind("pc", 0))
	vars(t, m, op(m, "beq", 1, 2, 1), 1<<32-4, bind("to", 4), bind("pc", 1<<32-4))
	vars(t, m, op(m, "addi", 1, 2, -32768), 4, bind("n", 1<<32-32768), bind("pc", 4))
	m = api.Given(2)
	vars(t, m, op(m, "ld", 1, 2, -4), 8, bind("n", 1<<32-4), bind("pc", 8))
}

// TestP8_5PcOutOfRange also has ops that do not fit, whose errors come first.
func TestP8_5PcOutOfRange(t *testing.T) {
	for _, m := range machines() {
		for _, pc := range []uint64{1 << m.Address, 1<<m.Address + 1, 1 << 63, math.MaxUint64} {
			for _, c := range []struct {
				op   api.MachOp
				want api.Errno
			}{{api.MachOp{Instr: -1}, api.ErrNone}, {api.MachOp{Args: make([]int, 5)}, api.ErrArg}, {op(m, "nop"), api.ErrRange}, {op(m, "none"), api.ErrRange}, {op(m, "mix", regP, regP, 1, 0), api.ErrRange}, {op(m, "mix", regP, regLow, 0, 0), api.ErrDiff}} {
				if len(m.Instrs) == 0 || c.op.Instr < 0 {
					c.want = api.ErrNone
				}
				if l, e := machine.Vars(m, c.op, pc); e != c.want || len(l) != 0 {
					t.Errorf("%s %v at %d: %v %d, not %d", m.Name, c.op, pc, l, e, c.want)
				}
			}
		}
	}
}

// TestP8_5ByChance calculates the numbers without bounds.
func TestP8_5ByChance(t *testing.T) {
	m := newMaker(5)
	met := 0
	all := machines()
	for range 10000 {
		d := pick(m, append(all, fieldOnly(uint8(2+m.IntN(3)), 1+m.IntN(29), m.IntN(4))))
		op := m.op(d)
		if referenceOp(d, op) != api.OK {
			continue
		}
		modulus := new(big.Int).Lsh(big.NewInt(1), uint(d.Address))
		pc := m.bits(d.Address)
		var want []api.Binding
		for k, o := range d.Instrs[op.Instr].Operands {
			x := big.NewInt(int64(op.Args[k]))
			switch o.Kind {
			case api.OperandReg:
				continue
			case api.OperandJump:
				x.Add(x, big.NewInt(1)).Mul(x, big.NewInt(int64(d.Word))).Add(x, new(big.Int).SetUint64(pc))
			}
			want = append(want, api.Binding{Name: o.Name, Width: d.Address, Bits: x.Mod(x, modulus).Uint64()})
			met++
		}
		vars(t, d, op, pc, append(want, api.Binding{Name: "pc", Width: d.Address, Bits: pc})...)
	}
	if met < 2000 {
		t.Error(met)
	}
}
