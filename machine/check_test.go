package machine_test

import (
	"math"
	"reflect"
	"slices"
	"strconv"
	"strings"
	"testing"

	"retarget/api"
	"retarget/machine"
)

// checks fails unless Check returns this error.
func checks(t *testing.T, m api.Machine, what string, want api.Errno) {
	t.Helper()
	if e := machine.Check(m); e != want {
		fails(t, m, what, e, want)
	}
}

func TestP8_1Valid(t *testing.T) {
	for _, m := range machines() {
		checks(t, m, "as it is", api.OK)
	}
	m := newMaker(1)
	for range 500 {
		d := m.registers(20)
		checks(t, d, "registers by chance", api.OK)
	}
}

// names returns this many names.
func names(many int) []string {
	var l []string
	for i := range many {
		l = append(l, "n"+strconv.Itoa(i))
	}
	return l
}

// full returns a machine with as much as the limits allow.
func full() api.Machine {
	m := api.Machine{Name: strings.Repeat("f", api.MaxName), Word: 4, Address: 32}
	for i, s := range names(api.MaxRegs) {
		m.Regs = append(m.Regs, api.MachReg{Name: s, Width: api.MaxWidth, Of: -1})
		if i > 0 {
			m.Regs[i] = api.MachReg{Name: s, Width: 1, Of: 0, Low: i % 64}
		}
	}
	all := []int{}
	for i := range api.MaxRegs - 1 {
		all = append(all, i+1)
	}
	for _, s := range names(api.MaxBanks) {
		m.Banks = append(m.Banks, api.MachBank{Name: s, Regs: slices.Clone(all)})
	}
	for _, s := range names(api.MaxUnits) {
		m.Units = append(m.Units, api.MachUnit{Name: s, Count: api.MaxCount})
	}
	for k, s := range names(api.MaxInstrs) {
		i := api.MachInstr{Name: s, Mask: 0xff, Match: uint64(k), Unit: api.MaxUnits - 1, Busy: api.MaxBusy, Latency: api.MaxLatency, Slots: api.MaxSlots}
		for n, s := range names(api.MaxOperands) {
			i.Operands = append(i.Operands, field(s, api.OperandReg, 15, 0, 8+n, 1, 12+n, 1, 16+n, 1, 20+n, 3*(n/3)+1))
			i.Operands[n].Bank = 0
			i.Effects = append(i.Effects, set(n, "(xor r.n1:1 "+s+":1)"))
		}
		i.Effects[3] = jump("pc:32")
		m.Instrs = append(m.Instrs, i)
	}
	// 16 registers are as many as a field of four bits has values.
	m.Banks[0].Regs = all[:16]
	return m
}

func TestP8_1Limits(t *testing.T) {
	checks(t, full(), "full", api.OK)
	for _, c := range []struct {
		what   string
		change func(m *api.Machine)
	}{
		{"registers", func(m *api.Machine) { m.Regs = append(m.Regs, api.MachReg{Name: "x", Width: 1, Of: -1}) }},
		{"banks", func(m *api.Machine) { m.Banks = append(m.Banks, api.MachBank{Name: "x", Regs: []int{0}}) }},
		{"registers of a bank", func(m *api.Machine) { m.Banks[15].Regs = append(m.Banks[15].Regs, 0, 0) }},
		{"units", func(m *api.Machine) { m.Units = append(m.Units, api.MachUnit{Name: "x", Count: 1}) }},
		{"instructions", func(m *api.Machine) { m.Instrs = append(m.Instrs, instr("x", 0, nil)) }},
		{"operands", func(m *api.Machine) { m.Instrs[63].Operands = append(m.Instrs[63].Operands, tied("x", 0, 0)) }},
		{"pieces", func(m *api.Machine) {
			m.Instrs[63].Operands[3].Pieces = append(m.Instrs[63].Operands[3].Pieces, api.MachPiece{At: 31, Len: 1})
		}},
		{"effects", func(m *api.Machine) { m.Instrs[63].Effects = append(m.Instrs[63].Effects, set(0, "n0:1")) }},
	} {
		m := full()
		c.change(&m)
		checks(t, m, c.what, api.ErrMany)
		m.Name, m.Word, m.Regs[0].Width, m.Units[0].Count, m.Instrs[0].Mask = "", -1, 0, 0, math.MaxUint64
		checks(t, m, c.what+", and not valid", api.ErrMany)
	}
	checks(t, api.Machine{Regs: make([]api.MachReg, 65)}, "registers only", api.ErrMany)
	checks(t, api.Machine{Regs: make([]api.MachReg, 64), Banks: make([]api.MachBank, 16), Units: make([]api.MachUnit, 8), Instrs: make([]api.MachInstr, 64)}, "nothing that is valid", api.ErrBad)
	checks(t, api.Machine{}, "zero", api.ErrBad)
	checks(t, api.Machine{Instrs: []api.MachInstr{{Operands: []api.MachOperand{{Pieces: make([]api.MachPiece, 5)}}}}}, "pieces only", api.ErrMany)
}

// A change makes a machine another one.
type change struct {
	what   string
	change func(m *api.Machine)
}

// become fails unless Check returns this error for the machine after each of the changes.
func become(t *testing.T, from func() api.Machine, want api.Errno, changes []change) {
	t.Helper()
	for _, c := range changes {
		m := from()
		c.change(&m)
		checks(t, m, c.what, want)
	}
}

func TestP8_1Head(t *testing.T) {
	for _, s := range []string{"a", "Z", "x9_", strings.Repeat("q", 24)} {
		become(t, tiny, api.OK, []change{{"name " + s, func(m *api.Machine) { m.Name = s }}})
	}
	for _, s := range []string{"", "9", "_a", "a.b", "r.a", "a b", "a\n", "é", strings.Repeat("q", 25)} {
		become(t, tiny, api.ErrBad, []change{{"name " + s, func(m *api.Machine) { m.Name = s }}})
	}
	for _, n := range []int{1, 2, 3, 4, 0, 5, 8, -1, 1 << 61, math.MaxInt, math.MinInt} {
		want := api.ErrBad
		if 1 <= n && n <= 4 {
			want = api.OK
		}
		become(t, tiny, want, []change{{"word " + strconv.Itoa(n), func(m *api.Machine) { m.Word = n }}})
		become(t, sample, api.ErrBad, []change{{"word " + strconv.Itoa(n), func(m *api.Machine) { m.Word = n * 5 }}})
	}
	for _, n := range []int{0, 1, 8, 15, 16, 17, 24, 31, 32, 33, 64, -16, math.MaxInt, math.MinInt} {
		want := api.ErrBad
		if n == 16 || n == 32 {
			want = api.OK
		}
		become(t, tiny, want, []change{{"address " + strconv.Itoa(n), func(m *api.Machine) { m.Address = n }}})
	}
}

func TestP8_1Registers(t *testing.T) {
	become(t, sample, api.OK, []change{
		{"a part with one bit less than its root", func(m *api.Machine) {
			m.Regs[regHigh], m.Banks = api.MachReg{Name: "high", Width: 31, Of: regA, Low: 1}, nil
			m.Instrs = nil
		}},
		{"a part of the highest bit", func(m *api.Machine) { m.Regs[regTop].Low = 63 }},
		{"a part of the lowest bit", func(m *api.Machine) { m.Regs[regTop].Low = 0 }},
		{"two parts of the same bits", func(m *api.Machine) { m.Regs[regHigh].Low = 0 }},
		{"a name that is that of a unit", func(m *api.Machine) { m.Regs[regTop].Name = "u" }},
		{"a name that is pc", func(m *api.Machine) { m.Regs[regMid].Name = "pc"; m.Instrs = nil }},
	})
	become(t, sample, api.ErrBad, []change{
		{"no register", func(m *api.Machine) { m.Regs, m.Banks, m.Instrs = nil, nil, nil }},
		{"no name", func(m *api.Machine) { m.Regs[regTop].Name = "" }},
		{"a name with r. in front", func(m *api.Machine) { m.Regs[regTop].Name = "r.top" }},
		{"the same name", func(m *api.Machine) { m.Regs[regTop].Name = "low" }},
		{"the same name as the next one", func(m *api.Machine) { m.Regs[regW].Name = "top"; m.Instrs = nil }},
		{"no width", func(m *api.Machine) { m.Regs[regTop].Width = 0 }},
		{"a width less than none", func(m *api.Machine) { m.Regs[regTop].Width = -1 }},
		{"the least width", func(m *api.Machine) { m.Regs[regTop].Width = math.MinInt }},
		{"a root that is too wide", func(m *api.Machine) { m.Regs[regW].Width = 65; m.Instrs = nil }},
		{"a part as wide as its root", func(m *api.Machine) { m.Regs[regTop] = api.MachReg{Name: "top", Width: 64, Of: regW} }},
		{"a part that is wider than its root", func(m *api.Machine) { m.Regs[regTop] = api.MachReg{Name: "top", Width: 2, Of: regFlag} }},
		{"a part above its root", func(m *api.Machine) { m.Regs[regTop].Low = 64 }},
		{"a part partly above its root", func(m *api.Machine) { m.Regs[regHigh].Low = 17 }},
		{"a part below its root", func(m *api.Machine) { m.Regs[regTop].Low = -1 }},
		{"a part far above its root", func(m *api.Machine) { m.Regs[regTop].Low = math.MaxInt }},
		{"a part far below its root", func(m *api.Machine) { m.Regs[regTop].Low = math.MinInt }},
		{"a part of a part", func(m *api.Machine) { m.Regs[regTop] = api.MachReg{Name: "top", Width: 1, Of: regMid} }},
		{"a part of itself", func(m *api.Machine) { m.Regs[regTop].Of = regTop }},
		{"a part of none", func(m *api.Machine) { m.Regs[regTop].Of = 8 }},
		{"a part of -2", func(m *api.Machine) { m.Regs[regTop].Of = -2 }},
		{"a part of the last number", func(m *api.Machine) { m.Regs[regTop].Of = math.MaxInt }},
		{"a root that does not begin at 0", func(m *api.Machine) { m.Regs[regFlag].Low = 1 }},
		{"the root of parts does not begin at 0", func(m *api.Machine) { m.Regs[regA].Low = 1 }},
		{"the root of parts is a part", func(m *api.Machine) { m.Regs[regA].Of = regW }},
	})
}

// TestP8_1WidthsOfParts has nothing but registers, so that nothing else is wrong with a machine whose part is.
func TestP8_1WidthsOfParts(t *testing.T) {
	for root := 1; root <= 64; root++ {
		for width := 1; width <= 65; width++ {
			for _, low := range []int{0, 1, root - width - 1, root - width, root - width + 1} {
				m := tiny()
				m.Regs = []api.MachReg{{Name: "x", Width: width, Of: 1, Low: low}, {Name: "a", Width: root, Of: -1}}
				checks(t, m, "a part", reference(m))
				if width == root && machine.Check(m) != api.ErrBad {
					t.Errorf("a part with all %d bits", root)
				}
			}
		}
	}
}

func TestP8_1BanksAndUnits(t *testing.T) {
	become(t, sample, api.OK, []change{
		{"no bank", func(m *api.Machine) { m.Banks, m.Instrs = nil, nil }},
		{"a register in two banks", func(m *api.Machine) {
			m.Banks[1].Regs[1] = regFlag
			m.Banks = append(m.Banks, api.MachBank{Name: "x", Regs: []int{regFlag}})
		}},
		{"a register that overlaps another one", func(m *api.Machine) { m.Banks[0].Regs = append(m.Banks[0].Regs, regMid) }},
		{"the name of a unit", func(m *api.Machine) { m.Banks[0].Name = "u" }},
		{"one copy", func(m *api.Machine) { m.Units[0].Count = 1 }},
	})
	become(t, sample, api.ErrBad, []change{
		{"the same name of banks", func(m *api.Machine) { m.Banks[1].Name = "half" }},
		{"no name of a bank", func(m *api.Machine) { m.Banks[1].Name = "" }},
		{"a bank without registers", func(m *api.Machine) { m.Banks = append(m.Banks, api.MachBank{Name: "x"}) }},
		{"the same register", func(m *api.Machine) { m.Banks[1].Regs[1] = regTop }},
		{"another width", func(m *api.Machine) { m.Banks[1].Regs[1] = regLow }},
		{"another width of the first one", func(m *api.Machine) { m.Banks[0].Regs[0] = regA }},
		{"no register", func(m *api.Machine) { m.Banks[1].Regs[1] = 8 }},
		{"-1", func(m *api.Machine) { m.Banks[1].Regs[0] = -1 }},
		{"the greatest number", func(m *api.Machine) { m.Banks[1].Regs[1] = math.MaxInt }},
		{"no unit", func(m *api.Machine) { m.Units, m.Instrs = nil, nil }},
		{"the same name of units", func(m *api.Machine) { m.Units[1].Name = "u" }},
		{"no name of a unit", func(m *api.Machine) { m.Units[1].Name = "1" }},
		{"no copies", func(m *api.Machine) { m.Units[1].Count = 0 }},
		{"five copies", func(m *api.Machine) { m.Units[1].Count = 5 }},
		{"-1 copies", func(m *api.Machine) { m.Units[0].Count = -1 }},
	})
}

func TestP8_1Instructions(t *testing.T) {
	become(t, sample, api.OK, []change{
		{"no instruction", func(m *api.Machine) { m.Instrs = nil }},
		{"no bit in the mask", func(m *api.Machine) { m.Instrs[3].Mask, m.Instrs[3].Match = 0, 0 }},
		{"all bits in the mask", func(m *api.Machine) { m.Instrs[3].Mask, m.Instrs[3].Match = 0xffffff, 0xabcdef }},
		{"the same mask and match", func(m *api.Machine) { m.Instrs[3].Match = m.Instrs[2].Match }},
		{"a jump without slots", func(m *api.Machine) { m.Instrs[1].Slots = 0 }},
		{"names of other instructions' operands", func(m *api.Machine) { m.Instrs[3].Name = "to" }},
	})
	become(t, sample, api.ErrBad, []change{
		{"no name", func(m *api.Machine) { m.Instrs[3].Name = "" }},
		{"the same name", func(m *api.Machine) { m.Instrs[3].Name = "mix" }},
		{"a mask above the word", func(m *api.Machine) { m.Instrs[3].Mask |= 1 << 24 }},
		{"a mask in the highest bit", func(m *api.Machine) { m.Instrs[3].Mask |= 1 << 63 }},
		{"a match outside the mask", func(m *api.Machine) { m.Instrs[3].Match |= 1 << 20 }},
		{"a match above the word", func(m *api.Machine) { m.Instrs[3].Match |= 1 << 24 }},
		{"a mask that has less than the match", func(m *api.Machine) { m.Instrs[3].Mask = 1 << 23 }},
		{"two jumps", func(m *api.Machine) { m.Instrs[1].Effects = append(m.Instrs[1].Effects, jump("to:16")) }},
		{"two jumps with conditions", func(m *api.Machine) {
			m.Instrs[3].Effects = []api.MachEffect{jumpIf("pc:16", "r.f:1"), jumpIf("pc:16", "(not r.f:1)")}
		}},
		{"a trap and another effect", func(m *api.Machine) { m.Instrs[2].Effects = append(m.Instrs[2].Effects, fix(regP, "pc:16")) }},
		{"another effect and a trap", func(m *api.Machine) { m.Instrs[1].Effects[1] = trap("pc:16") }},
		{"two traps", func(m *api.Machine) { m.Instrs[2].Effects = append(m.Instrs[2].Effects, trap("pc:16")) }},
		{"no unit", func(m *api.Machine) { m.Instrs[3].Unit = 2 }},
		{"the unit -1", func(m *api.Machine) { m.Instrs[3].Unit = -1 }},
		{"busy for no cycle", func(m *api.Machine) { m.Instrs[3].Busy = 0 }},
		{"busy for too long", func(m *api.Machine) { m.Instrs[3].Busy = 16 }},
		{"a latency of 0", func(m *api.Machine) { m.Instrs[3].Latency = 0 }},
		{"a latency that is too long", func(m *api.Machine) { m.Instrs[3].Latency = 16 }},
		{"slots without a jump", func(m *api.Machine) { m.Instrs[3].Slots = 1 }},
		{"slots of a trap", func(m *api.Machine) { m.Instrs[2].Slots = 1 }},
		{"three slots", func(m *api.Machine) { m.Instrs[0].Slots = 3 }},
		{"-1 slots", func(m *api.Machine) { m.Instrs[0].Slots = -1 }},
	})
}

// operands returns sample with one instruction more, in which only the lowest 21 bits are free for the operands.
func operands(l ...api.MachOperand) func() api.Machine {
	return func() api.Machine {
		m := sample()
		m.Banks = append(m.Banks, api.MachBank{Name: "one", Regs: []int{regW}})
		m.Instrs = append(m.Instrs, instr("more", 6, l))
		return m
	}
}

// operandsAre fails unless Check returns this error for an instruction with these operands.
func operandsAre(t *testing.T, what string, want api.Errno, l ...api.MachOperand) {
	t.Helper()
	checks(t, operands(l...)(), what, want)
}

func TestP8_1OperandsThatAreRegisters(t *testing.T) {
	reg := func(name string, bank, scale int, places ...int) api.MachOperand {
		return field(name, api.OperandReg, bank, scale, places...)
	}
	d := reg("d", 0, 0, 0, 2)
	operandsAre(t, "two bits for three registers", api.OK, d)
	operandsAre(t, "one bit for two registers", api.OK, reg("d", 1, 0, 20, 1))
	operandsAre(t, "one bit for one register", api.OK, reg("d", 2, 0, 20, 1))
	operandsAre(t, "two pieces", api.OK, reg("d", 0, 0, 20, 1, 0, 1))
	operandsAre(t, "far more bits", api.OK, reg("d", 0, 0, 0, 21))
	operandsAre(t, "one bit for three registers", api.ErrBad, reg("d", 0, 0, 0, 1))
	operandsAre(t, "no piece", api.ErrBad, reg("d", 2, 0))
	operandsAre(t, "a scale", api.ErrBad, reg("d", 0, 1, 0, 2))
	operandsAre(t, "no bank", api.ErrBad, reg("d", 3, 0, 0, 2))
	operandsAre(t, "the bank -1", api.ErrBad, reg("d", -1, 0, 0, 2))
	operandsAre(t, "no kind", api.ErrBad, field("d", 0, 0, 0, 0, 2))
	operandsAre(t, "an unknown kind", api.ErrBad, field("d", 5, 0, 0, 0, 2))

	operandsAre(t, "tied", api.OK, d, tied("a", 0, 0))
	operandsAre(t, "twice tied", api.OK, d, tied("a", 0, 0), tied("b", 0, 0))
	operandsAre(t, "tied to the second one", api.OK, field("n", api.OperandSigned, 0, 0, 10, 1), d, tied("b", 0, 1))
	operandsAre(t, "tied to a tied one", api.ErrBad, d, tied("a", 0, 0), tied("b", 0, 1))
	operandsAre(t, "tied to itself", api.ErrBad, tied("a", 0, 0), d)
	operandsAre(t, "tied to a later one", api.ErrBad, tied("a", 0, 1), d)
	operandsAre(t, "tied to -2", api.ErrBad, d, tied("a", 0, -2))
	operandsAre(t, "tied to a number", api.ErrBad, field("n", api.OperandSigned, 0, 0, 10, 1), tied("a", 0, 0))
	operandsAre(t, "tied to another bank", api.ErrBad, d, tied("a", 1, 0))
	operandsAre(t, "tied to none", api.ErrBad, d, tied("a", 0, 4))
	withPiece, withScale := tied("a", 0, 0), tied("a", 0, 0)
	withPiece.Pieces, withScale.Scale = []api.MachPiece{{At: 10, Len: 2}}, 1
	operandsAre(t, "tied, with a piece", api.ErrBad, d, withPiece)
	operandsAre(t, "tied, with a scale", api.ErrBad, d, withScale)
	operandsAre(t, "tied, without a bank", api.ErrBad, d, tied("a", 3, 0))
}

func TestP8_1OperandsThatAreNumbers(t *testing.T) {
	for _, kind := range []uint8{api.OperandSigned, api.OperandUnsigned, api.OperandJump} {
		is := func(want api.Errno, what string, scale int, places ...int) {
			t.Helper()
			operandsAre(t, what, want, field("n", kind, 0, scale, places...))
		}
		is(api.OK, "one bit", 0, 0, 1)
		is(api.OK, "sixteen bits", 0, 5, 16)
		is(api.OK, "thirteen bits and the greatest scale", 3, 0, 13)
		is(api.OK, "four pieces", 1, 17, 4, 12, 5, 11, 1, 0, 5)
		is(api.ErrBad, "seventeen bits", 0, 0, 17)
		is(api.ErrBad, "four pieces and a scale", 2, 17, 4, 12, 5, 11, 1, 0, 5)
		is(api.ErrBad, "fourteen bits and the greatest scale", 3, 0, 14)
		is(api.ErrBad, "a scale that is too great", 4, 0, 2)
		is(api.ErrBad, "the scale -1", -1, 0, 2)
		is(api.ErrBad, "the greatest scale", math.MaxInt, 0, 2)
		is(api.ErrBad, "the least scale", math.MinInt, 0, 2)
		is(api.ErrBad, "no piece", 0)
		n := field("n", kind, 0, 0, 0, 2)
		n.Bank = 1
		operandsAre(t, "a bank", api.ErrBad, n)
		n.Bank, n.Tied = 0, 0
		operandsAre(t, "tied to 0", api.ErrBad, field("d", api.OperandReg, 0, 0, 10, 2), n)
		n.Tied = -2
		operandsAre(t, "tied to -2", api.ErrBad, n)
	}
	wide := tiny()
	wide.Word, wide.Address = 4, 32
	for k, want := range []api.Errno{api.OK, api.ErrBad} {
		wide.Instrs = []api.MachInstr{{Name: "i", Busy: 1, Latency: 1, Operands: []api.MachOperand{field("n", api.OperandUnsigned, 0, k, 0, 32)}}}
		checks(t, wide, "all bits of a word", want)
	}
}

func TestP8_1NamesAndPieces(t *testing.T) {
	signed := func(name string, places ...int) api.MachOperand {
		return field(name, api.OperandSigned, 0, 0, places...)
	}
	operandsAre(t, "a name of a register", api.OK, signed("a", 0, 1))
	operandsAre(t, "pc", api.ErrBad, signed("pc", 0, 1))
	operandsAre(t, "pc behind another one", api.ErrBad, signed("a", 0, 1), signed("pc", 1, 1))
	operandsAre(t, "no name", api.ErrBad, signed("", 0, 1))
	operandsAre(t, "a name with r. in front", api.ErrBad, signed("r.a", 0, 1))
	operandsAre(t, "the same name", api.ErrBad, signed("a", 0, 1), signed("a", 1, 1))
	operandsAre(t, "pieces side by side", api.OK, signed("a", 4, 4, 0, 4), signed("b", 16, 5, 8, 8))
	operandsAre(t, "a bit twice in an operand", api.ErrBad, signed("a", 4, 4, 1, 4))
	operandsAre(t, "a piece twice in an operand", api.ErrBad, signed("a", 4, 4, 4, 4))
	operandsAre(t, "a bit in two operands", api.ErrBad, signed("a", 4, 4), signed("b", 7, 1))
	operandsAre(t, "a bit of the mask", api.ErrBad, signed("a", 20, 2))
	operandsAre(t, "a bit of the mask that is 0 in match", api.ErrBad, signed("a", 21, 1))
	operandsAre(t, "a piece in the mask", api.ErrBad, signed("a", 0, 4, 22, 1))
	operandsAre(t, "an empty piece", api.ErrBad, signed("a", 4, 0))
	operandsAre(t, "an empty piece behind another one", api.ErrBad, signed("a", 0, 1, 4, 0))
	operandsAre(t, "an empty piece that does not lie within the word", api.ErrBad, signed("a", 0, 1, 99, 0))
	for _, p := range [][2]int{{-1, 1}, {-1, 4}, {24, 1}, {23, 2}, {0, 25}, {4, -1}, {math.MaxInt, 1}, {math.MaxInt, math.MaxInt}, {1, math.MaxInt}, {math.MinInt, 1}, {math.MinInt, math.MinInt}, {4, math.MinInt}, {-4, 70}, {64, 1}, {32, 64}} {
		operandsAre(t, "a piece at "+strconv.Itoa(p[0])+" of "+strconv.Itoa(p[1]), api.ErrBad, signed("a", 0, 1, p[0], p[1]))
		m := operands(signed("a", 0, 1, p[0], p[1]))()
		m.Instrs[len(m.Instrs)-1].Mask, m.Instrs[len(m.Instrs)-1].Match = 0, 0
		checks(t, m, "without a mask", map[bool]api.Errno{true: api.OK, false: api.ErrBad}[p[0] >= 0 && p[1] > 0 && p[0] < 24 && p[1] <= 24-p[0] && p[1] < 16 && p[0] > 0])
	}
	m := operands(signed("a", 21, 3), signed("b", 0, 4))()
	m.Instrs[len(m.Instrs)-1].Mask, m.Instrs[len(m.Instrs)-1].Match = 0, 0
	checks(t, m, "a field at the highest bit of the word", api.OK)
}

// effectsAre fails unless Check returns this error for an instruction with the operands d (a register of 16 bits), x (a register of 1 bit) and n (a number), and with these effects.
func effectsAre(t *testing.T, what string, want api.Errno, l ...api.MachEffect) {
	t.Helper()
	m := operands(field("d", api.OperandReg, 0, 0, 0, 2), field("x", api.OperandReg, 1, 0, 2, 1), field("n", api.OperandSigned, 0, 0, 3, 4))()
	m.Instrs[len(m.Instrs)-1].Effects = l
	checks(t, m, what, want)
}

func TestP8_1Effects(t *testing.T) {
	effectsAre(t, "operand 0", api.OK, set(0, "n:16"))
	effectsAre(t, "operand 1", api.OK, set(1, "(eq n:16 d:16)"))
	effectsAre(t, "the same operand twice", api.OK, set(1, "x:1"), set(1, "(not x:1)"))
	effectsAre(t, "operand 0 with another width", api.ErrBad, set(0, "x:1"))
	effectsAre(t, "operand 1 with another width", api.ErrBad, set(1, "n:16"))
	effectsAre(t, "an operand that is a number", api.ErrBad, set(2, "n:16"))
	effectsAre(t, "no operand", api.ErrBad, set(3, "n:16"))
	effectsAre(t, "the operand -2", api.ErrBad, set(-2, "n:16"))
	effectsAre(t, "the least operand", api.ErrBad, set(math.MinInt, "n:16"))
	effectsAre(t, "register 0", api.OK, fix(0, "n:16"))
	effectsAre(t, "a register of 64 bits", api.OK, fix(regW, "(sext 64 n:16)"))
	effectsAre(t, "a register with another width", api.ErrBad, fix(regW, "n:16"))
	effectsAre(t, "no register", api.ErrBad, fix(8, "n:16"))
	effectsAre(t, "register -1", api.ErrBad, fix(-1, "n:16"))
	effectsAre(t, "four effects", api.OK, store("n:16", "n:16"), jump("n:16"), set(0, "n:16"), fix(regTop, "x:1"))
	for width := 1; width <= 64; width++ {
		want := api.ErrBad
		if width == 8 || width == 16 || width == 32 || width == 64 {
			want = api.OK
		}
		effectsAre(t, "a store", want, store("n:16", "(extract 0 "+strconv.Itoa(width)+" r.w:64)"))
		effectsAre(t, "a trap", api.OK, trap("(extract 0 "+strconv.Itoa(width)+" r.w:64)"))
		want = api.ErrBad
		if width == 16 {
			want = api.OK
		}
		effectsAre(t, "a store at an address", want, store("(extract 0 "+strconv.Itoa(width)+" r.w:64)", "n:16"))
		effectsAre(t, "a jump", want, jump("(extract 0 "+strconv.Itoa(width)+" r.w:64)"))
		want = api.ErrBad
		if width == 1 {
			want = api.OK
		}
		effectsAre(t, "a condition", want, jumpIf("n:16", "(extract 0 "+strconv.Itoa(width)+" r.w:64)"))
	}
	for kind := range 256 {
		if kind < 1 || kind > 4 {
			effectsAre(t, "another kind", api.ErrBad, api.MachEffect{Kind: uint8(kind), Value: parse("n:16")})
		}
	}
	effectsAre(t, "no effect", api.ErrBad, api.MachEffect{})
}

// TestP8_1FieldsOfEffects puts something into fields that the kind of an effect does not use.
func TestP8_1FieldsOfEffects(t *testing.T) {
	for _, f := range []api.MachEffect{set(0, "n:16"), fix(0, "n:16"), store("n:16", "n:16"), jump("n:16"), jumpIf("n:16", "x:1"), trap("n:16")} {
		effectsAre(t, "as it is", api.OK, f)
		used := map[string]bool{".Value": true, ".Addr": f.Kind == api.EffectStore, ".Cond": f.Kind == api.EffectJump, ".Operand": f.Kind == api.EffectReg, ".Reg": f.Operand == -1}
		for _, s := range []struct {
			field  string
			change func(f *api.MachEffect)
		}{
			{".Operand", func(f *api.MachEffect) { f.Operand = 1 }}, {".Operand", func(f *api.MachEffect) { f.Operand = -1 }},
			{".Reg", func(f *api.MachEffect) { f.Reg = 1 }}, {".Reg", func(f *api.MachEffect) { f.Reg = -1 }},
			{".Addr", func(f *api.MachEffect) { f.Addr = parse("n:16") }}, {".Addr", func(f *api.MachEffect) { f.Addr.Kind = 1 }},
			{".Addr", func(f *api.MachEffect) { f.Addr.Width = 1 }}, {".Addr", func(f *api.MachEffect) { f.Addr.Sub = []api.Term{{}} }},
			{".Cond", func(f *api.MachEffect) { f.Cond = parse("x:1") }}, {".Cond", func(f *api.MachEffect) { f.Cond.Name = "x" }},
			{".Cond", func(f *api.MachEffect) { f.Cond.Low = 1 }}, {".Cond", func(f *api.MachEffect) { f.Cond.Bits = 1 }},
		} {
			g := f
			s.change(&g)
			if !used[s.field] {
				effectsAre(t, s.field+" is not used", api.ErrBad, g)
			}
		}
		g := f
		g.Value = api.Term{}
		effectsAre(t, "no value", api.ErrBad, g)
		g = f
		g.Value.Sub, g.Addr.Sub, g.Cond.Sub = []api.Term{}, []api.Term{}, []api.Term{}
		effectsAre(t, "empty lists for nil", api.OK, g)
	}
	half := jump("n:16")
	half.Cond.Width = 1
	effectsAre(t, "a condition that is neither zero nor a term", api.ErrBad, half)
}

func TestP8_1Terms(t *testing.T) {
	value := func(want api.Errno, texts ...string) {
		t.Helper()
		for _, s := range texts {
			effectsAre(t, s, want, trap(s))
			// The same term stands deep in others, and behind a right one.
			effectsAre(t, s, want, fix(regTop, "(eq 64:0000000000000000 (zext 64 "+s+"))"))
			effectsAre(t, s, want, fix(regTop, "r.f:1"), fix(regTop, "(ite r.f:1 r.f:1 (eq 64:0000000000000000 (zext 64 "+s+")))"))
			effectsAre(t, s, want, store("(extract 0 16 (zext 64 "+s+"))", "n:16"))
			effectsAre(t, s, want, store("n:16", "(zext 64 "+s+")"))
			effectsAre(t, s, want, jump("(extract 0 16 (zext 64 "+s+"))"))
			effectsAre(t, s, want, jumpIf("n:16", "(extract 0 1 (zext 64 "+s+"))"))
		}
	}
	value(api.OK, "d:16", "x:1", "n:16", "pc:16", "r.a:32", "r.low:16", "r.w:64", "r.top:1", "16:0000", "64:0123456789abcdef", "(load 8 n:16)", "(load 64 (load 16 pc:16))", "(load 32 (extract 0 16 r.a:32))", "(add d:16 r.p:16)")
	value(api.ErrBad, "d:15", "d:32", "x:16", "n:4", "n:32", "pc:32", "r.a:16", "r.top:64", "a:32", "low:16", "r.d:16", "r.x:1", "r.n:16", "r.pc:16", "to:16", "c:16", "y:1", "(load 8 x:1)", "(load 8 r.a:32)", "(load 16 (load 32 n:16))", "(load 8 (zext 17 n:16))")
	notFormed, great := trap("(not n:16)"), trap("n:16")
	notFormed.Value.Width = 17
	effectsAre(t, "not well-formed", api.ErrBad, notFormed)
	for range api.MaxDepth {
		great.Value = api.Term{Kind: api.TermNot, Width: 16, Sub: []api.Term{great.Value}}
	}
	effectsAre(t, "too deep", api.ErrBad, great)
	great.Value = great.Value.Sub[0]
	effectsAre(t, "as deep as it may be", api.OK, great)
	effectsAre(t, "two widths", api.ErrBad, trap("(eq n:16 n:16)"), fix(regTop, "(eq n:16 n:16)"))
}

// TestP8_1AddressOf32Bits has variables that are as wide as addresses.
func TestP8_1AddressOf32Bits(t *testing.T) {
	m := tiny()
	m.Address = 32
	n := field("n", api.OperandUnsigned, 0, 0, 0, 2)
	to := field("to", api.OperandJump, 0, 0, 2, 2)
	for s, want := range map[string]api.Errno{"n:32": api.OK, "n:16": api.ErrBad, "to:32": api.OK, "to:16": api.ErrBad, "pc:32": api.OK, "pc:16": api.ErrBad, "(load 32 n:32)": api.OK, "(extract 0 32 (load 64 (concat 24:000000 r.a:8)))": api.OK, "(load 32 (concat 8:00 r.a:8))": api.ErrBad} {
		m.Instrs = []api.MachInstr{{Name: "i", Busy: 1, Latency: 1, Operands: []api.MachOperand{n, to}, Effects: []api.MachEffect{jump(s)}}}
		checks(t, m, s, want)
	}
}

// TestP8_1EachField gives each field and each list of machines other values, one at a time, and holds the result against the reference. Of the given machines, which are alike and large, a few fields are enough.
func TestP8_1EachField(t *testing.T) {
	m := newMaker(2)
	met := map[api.Errno]int{}
	for k, d := range machines() {
		d = copyOf(d)
		for _, s := range spots(&d) {
			if k > 1 && m.IntN(50) > 0 {
				continue
			}
			kept := reflect.New(s.Type()).Elem()
			kept.Set(s.Value)
			for _, other := range s.others() {
				s.Set(other)
				want := reference(d)
				met[want]++
				checks(t, d, s.way, want)
			}
			s.Set(kept)
		}
	}
	if met[api.OK] < 500 || met[api.ErrBad] < 5000 || met[api.ErrMany] < 10 {
		t.Error(met)
	}
}

// TestP8_1ByChance changes a few fields at the same time.
func TestP8_1ByChance(t *testing.T) {
	m := newMaker(3)
	met := map[api.Errno]int{}
	for range 10000 {
		d := copyOf(sample())
		all := spots(&d)
		for range 1 + m.IntN(3) {
			s := pick(m, all)
			if others := s.others(); len(others) > 0 {
				s.Set(pick(m, others))
			}
		}
		want := reference(d)
		met[want]++
		checks(t, d, "by chance", want)
	}
	if met[api.OK] < 300 || met[api.ErrBad] < 5000 || met[api.ErrMany] < 10 {
		t.Error(met)
	}
}
