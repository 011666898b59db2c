package ambiguous_test

import (
	"math"
	"slices"
	"testing"

	"retarget/ambiguous"
	"retarget/api"
)

// legalIs fails unless Legal, Owners and the definition agree that a word is legal for the only instruction of a machine, or not.
func legalIs(t *testing.T, m api.Machine, word uint64, want bool) {
	t.Helper()
	if is, e := ambiguous.Legal(m, 0, word); is != want || e != api.OK {
		t.Errorf("legal %x: %v %v, not %v", word, is, e, want)
	}
	if l, e := ambiguous.Owners(m, word); (len(l) == 1) != want || e != api.OK {
		t.Errorf("owners %x: %v %v, not %v", word, l, e, want)
	}
	if isLegal(m, m.Instrs[0], word) != want {
		t.Errorf("the definition of %x: not %v", word, want)
	}
}

func TestP11_1Legal(t *testing.T) {
	for _, c := range []struct {
		word  int
		instr api.MachInstr
		words map[uint64]bool
	}{
		// The bits of Mask are those of Match.
		{1, instr(0xff, 0x5a), map[uint64]bool{0x5a: true, 0x5b: false, 0xda: false, 0x4a: false, 0: false}},
		{4, instr(0xffffffff, 0x80000001), map[uint64]bool{0x80000001: true, 1: false, 0x80000000: false, 0x80000003: false, 0xc0000001: false}},
		{4, instr(0xffffffff, 0), map[uint64]bool{0: true, 1: false, 0x80000000: false}},
		// Bits that are neither in Mask nor in a piece are 0.
		{1, instr(0, 0), map[uint64]bool{0: true, 1: false, 0x80: false, 0xff: false}},
		{2, instr(0x80, 0x80), map[uint64]bool{0x80: true, 0x81: false, 0x180: false, 0x8080: false, 0: false}},
		{3, instr(0xf00000, 0xa00000, number(api.OperandSigned, 0, 4, 8)), map[uint64]bool{0xa00000: true, 0xa00ff0: true, 0xa00001: false, 0xa00ff8: false, 0xa01ff0: false, 0xa80000: false}},
		// All numbers are legal.
		{1, instr(0x80, 0x80, number(api.OperandSigned, 3, 0, 7)), map[uint64]bool{0x80: true, 0xff: true, 0xc0: true, 0x7f: false}},
		{1, instr(0x80, 0, number(api.OperandUnsigned, 0, 0, 3), number(api.OperandJump, 1, 3, 4)), map[uint64]bool{0x7f: true, 0: true, 0x80: false, 0x07: true, 0x78: true}},
		{4, instr(0, 0, number(api.OperandJump, 0, 0, 32)), map[uint64]bool{0: true, 0xffffffff: true, 0x80000000: true}},
		// The number of a register is less than that of the registers.
		{1, instr(0xf0, 0x40, register(bank3, 0, 2), register(bank3, 2, 2)), map[uint64]bool{0x40: true, 0x4a: true, 0x42: true, 0x48: true, 0x43: false, 0x4c: false, 0x4b: false, 0x4e: false, 0x50: false}},
		{1, instr(0, 0, register(bank5, 5, 3)), map[uint64]bool{0: true, 0x20: true, 0x80: true, 0xa0: false, 0xc0: false, 0xe0: false, 0x10: false}},
		{1, instr(0, 0, register(bank8, 5, 3)), map[uint64]bool{0: true, 0xe0: true, 0xe1: false}},
		{1, instr(0, 0, register(bank1, 0, 8)), map[uint64]bool{0: true, 1: false, 2: false, 0x80: false}},
		{4, instr(0, 0, register(bank64, 0, 32)), map[uint64]bool{0: true, 63: true, 64: false, 0x80000000: false, 0xffffffff: false, 32: true}},
		{4, instr(0, 0, register(bank2, 31, 1, 0, 31)), map[uint64]bool{0: true, 0x80000000: true, 1: false, 0x40000000: false, 0x80000001: false}},
		// The first piece has the least significant bits: the field 5 is 1 in the bit 7 and 2 in the bits 2 and 3.
		{1, instr(0, 0, register(bank5, 7, 1, 2, 2)), map[uint64]bool{0: true, 0x80: true, 0x04: true, 0x84: true, 0x08: true, 0x88: false, 0x0c: false, 0x8c: false}},
		{2, instr(0, 0, register(bank5, 15, 1, 0, 1, 8, 1, 4, 1)), map[uint64]bool{0x8001: true, 0x100: true, 0x8100: false, 0x101: false, 0x10: false, 0x1: true}},
		// A register that is tied has no bits of its own.
		{1, instr(0xf0, 0x10, register(bank3, 1, 2), tied(bank3, 0)), map[uint64]bool{0x10: true, 0x14: true, 0x16: false, 0x11: false, 0x18: false}},
		// One field that is wrong is enough, at each place.
		{2, instr(0xff00, 0xab00, register(bank3, 0, 2), register(bank3, 2, 2), register(bank3, 4, 2), register(bank3, 6, 2)), map[uint64]bool{0xab00: true, 0xabaa: true, 0xab03: false, 0xab0c: false, 0xab30: false, 0xabc0: false}},
		{2, instr(0, 0, number(api.OperandSigned, 0, 0, 8), register(bank3, 8, 2)), map[uint64]bool{0x2ff: true, 0x300: false, 0x1ff: true, 0x400: false}},
	} {
		for word, want := range c.words {
			legalIs(t, made(c.word, c.instr), word, want)
		}
	}
}

// TestP11_1Given has words of the given machines.
func TestP11_1Given(t *testing.T) {
	for _, c := range []struct {
		machine int
		word    uint64
		owner   string
	}{
		{0, 0, "add"}, {0, 0x03ffc000, "add"}, {0, 1, ""}, {0, 0x00002000, ""}, {0, 0x0400_0000, "sub"}, {0, 0xffffffff, ""},
		{1, 0x0010, "mov"}, {1, 0x0001, ""}, {1, 0x0401, "movi"}, {1, 0x07ff, "movi"},
		{2, 0, ""}, {2, 0x01000000, "add"}, {2, 0x01ff8000, "add"}, {2, 0x01004000, ""}, {2, 0xff000000, ""},
	} {
		m := api.Given(c.machine)
		l := must(ambiguous.Owners(m, c.word))
		if c.owner == "" && len(l) > 0 || c.owner != "" && (len(l) != 1 || m.Instrs[l[0]].Name != c.owner) {
			t.Errorf("%s %x: %v, not %q", m.Name, c.word, l, c.owner)
		}
	}
}

// TestP11_1Words holds Legal and Owners against the definition for words by chance.
func TestP11_1Words(t *testing.T) {
	r := newMaker(1)
	all := []api.Machine{api.Given(0), api.Given(1), api.Given(2)}
	for i := range 600 {
		all = append(all, r.machine(1+i%4, 6))
	}
	met := [3]int{}
	for _, m := range all {
		for range 12 {
			word := r.word(m)
			want := ownersOf(m, word)
			met[min(len(want), 2)]++
			if l, e := ambiguous.Owners(m, word); !slices.Equal(l, want) || e != api.OK {
				t.Fatalf("%v: owners %x: %v %v, not %v", m.Instrs, word, l, e, want)
			}
			for i := range m.Instrs[:min(len(m.Instrs), 6)] {
				if is, e := ambiguous.Legal(m, i, word); is != slices.Contains(want, i) || e != api.OK {
					t.Fatalf("%v: legal %d %x: %v %v, not %v", m.Instrs, i, word, is, e, want)
				}
			}
		}
	}
	if slices.Min(met[:]) < 100 {
		t.Error(met)
	}
}

func TestP11_1Order(t *testing.T) {
	// All instructions but the fourth one own 0x40.
	m := made(1, instr(0xff, 0x40), instr(0xf0, 0x40), instr(0, 0, number(api.OperandSigned, 0, 0, 8)), instr(0xff, 0x41), instr(0xc0, 0x40))
	if l := must(ambiguous.Owners(m, 0x40)); !slices.Equal(l, []int{0, 1, 2, 4}) {
		t.Error(l)
	}
	if l := must(ambiguous.Owners(made(1), 0)); len(l) > 0 {
		t.Error(l)
	}
	var many []api.MachInstr
	for range api.MaxInstrs {
		many = append(many, instr(0, 0))
	}
	if l := must(ambiguous.Owners(made(4, many...), 0)); len(l) != 64 || l[0] != 0 || l[63] != 63 || !slices.IsSorted(l) {
		t.Error(l)
	}
}

func TestP11_1Errors(t *testing.T) {
	for size := 1; size <= 4; size++ {
		m := made(size, instr(0, 0), instr(0, 0))
		for _, word := range []uint64{limit(m), limit(m) + 1, 2 * limit(m), 1 << 32, 1 << 33, 1 << 63, math.MaxUint64, 1<<63 - 1} {
			if is, e := ambiguous.Legal(m, 1, word); is || e != api.ErrRange {
				t.Errorf("%d bytes, %x: %v %v", size, word, is, e)
			}
			if l, e := ambiguous.Owners(m, word); len(l) > 0 || e != api.ErrRange {
				t.Errorf("%d bytes, %x: %v %v", size, word, l, e)
			}
			for _, i := range append([]int{2}, noIndices...) {
				if is, e := ambiguous.Legal(m, i, word); is || e != api.ErrArg {
					t.Errorf("%d bytes, %d, %x: %v %v", size, i, word, is, e)
				}
			}
		}
		for _, i := range append([]int{2, 3, 64}, noIndices...) {
			if is, e := ambiguous.Legal(m, i, 0); is || e != api.ErrArg {
				t.Errorf("%d: %v %v", i, is, e)
			}
		}
		for i := range 2 {
			if is, e := ambiguous.Legal(m, i, limit(m)-1); is || e != api.OK {
				t.Errorf("%d bytes: %v %v", size, is, e)
			}
		}
		if l, e := ambiguous.Owners(m, limit(m)-1); len(l) > 0 || e != api.OK {
			t.Errorf("%d bytes: %v %v", size, l, e)
		}
		if is, e := ambiguous.Legal(made(size), 0, 0); is || e != api.ErrArg {
			t.Errorf("no instructions: %v %v", is, e)
		}
	}
}

// TestP11Check has machines that are not valid: their error comes before all others.
func TestP11Check(t *testing.T) {
	refusesAll(t, api.Machine{}, api.ErrBad)
	for _, c := range []struct {
		change func(*api.Machine)
		want   api.Errno
	}{
		{func(m *api.Machine) { m.Word = 0 }, api.ErrBad},
		{func(m *api.Machine) { m.Word = 5 }, api.ErrBad},
		{func(m *api.Machine) { m.Word = math.MinInt }, api.ErrBad},
		{func(m *api.Machine) { m.Name = "" }, api.ErrBad},
		{func(m *api.Machine) { m.Instrs[1].Match = 1 << 40 }, api.ErrBad},
		{func(m *api.Machine) { m.Instrs[1].Operands[0].Bank = 99 }, api.ErrBad},
		{func(m *api.Machine) { m.Instrs[1].Operands[0].Tied = 99 }, api.ErrBad},
		{func(m *api.Machine) { m.Instrs[1].Operands[0].Pieces[0].At = -1 }, api.ErrBad},
		{func(m *api.Machine) { m.Instrs[1].Operands[0].Pieces[0].Len = math.MaxInt }, api.ErrBad},
		{func(m *api.Machine) { m.Instrs[0].Name = m.Instrs[1].Name }, api.ErrBad},
		{func(m *api.Machine) { m.Instrs[0].Operands = make([]api.MachOperand, 5) }, api.ErrMany},
		{func(m *api.Machine) { m.Instrs[0].Operands[0].Pieces = make([]api.MachPiece, 5) }, api.ErrMany},
		{func(m *api.Machine) { m.Instrs = append(m.Instrs, make([]api.MachInstr, 64)...) }, api.ErrMany},
		{func(m *api.Machine) { m.Regs = make([]api.MachReg, 65) }, api.ErrMany},
	} {
		m := api.Given(0)
		c.change(&m)
		refusesAll(t, m, c.want)
	}
}
