package machine_test

import (
	"math"
	"slices"
	"strings"
	"testing"

	"retarget/api"
	"retarget/machine"
)

// found fails unless a search had this result.
func found(t *testing.T, what string, i int, e api.Errno, want int, wanted api.Errno) {
	t.Helper()
	if i != want || e != wanted {
		t.Errorf("%s: %d %d, not %d %d", what, i, e, want, wanted)
	}
}

func TestP8_3RegisterAndInstruction(t *testing.T) {
	for _, m := range append(machines(), full()) {
		for k, r := range m.Regs {
			i, e := machine.Register(m, r.Name)
			found(t, m.Name+" "+r.Name, i, e, k, api.OK)
		}
		for k, x := range m.Instrs {
			i, e := machine.Instruction(m, x.Name)
			found(t, m.Name+" "+x.Name, i, e, k, api.OK)
		}
		for _, s := range []string{"", "r.a", "A", "lo", "loww", "low ", "pc", "half", "sample", "MIX", "mix\x00", strings.Repeat("a", 1<<20)} {
			i, e := machine.Register(m, s)
			found(t, m.Name+" "+s[:min(len(s), 9)], i, e, 0, api.ErrNone)
			i, e = machine.Instruction(m, s)
			found(t, m.Name+" "+s[:min(len(s), 9)], i, e, 0, api.ErrNone)
		}
	}
	i, e := machine.Register(sample(), "mix")
	found(t, "the register with an instruction's name", i, e, 0, api.ErrNone)
	i, e = machine.Instruction(sample(), "low")
	found(t, "the instruction with a register's name", i, e, 0, api.ErrNone)
	i, e = machine.Register(sample(), "top")
	found(t, "the last register", i, e, 7, api.OK)
	i, e = machine.Register(api.Given(1), "ah")
	found(t, "ah", i, e, 12, api.OK)
	i, e = machine.Instruction(api.Given(0), "jump")
	found(t, "jump", i, e, 32, api.OK)
}

func TestP8_3Roots(t *testing.T) {
	for _, c := range []struct {
		m    api.Machine
		want []int
	}{
		{sample(), []int{regA, regFlag, regP, regW}}, {tiny(), []int{0}}, {full(), []int{0}},
		{api.Given(1), []int{0, 1, 2, 3, 4, 5, 6, 7, 16, 17, 18}}, {api.Given(2), []int{0, 1, 2, 3, 4, 5, 6, 7}},
	} {
		if l, e := machine.Roots(c.m); e != api.OK || !slices.Equal(l, c.want) {
			t.Errorf("%s: %v %d, not %v", c.m.Name, l, e, c.want)
		}
	}
}

// isPart fails unless Part returns these numbers.
func isPart(t *testing.T, m api.Machine, reg, root, low, width int) {
	t.Helper()
	if r, l, w, e := machine.Part(m, reg); r != root || l != low || w != width || e != api.OK {
		t.Errorf("%s %d: %d %d %d %d, not %d %d %d", m.Name, reg, r, l, w, e, root, low, width)
	}
}

func TestP8_3Part(t *testing.T) {
	m := sample()
	isPart(t, m, regLow, 0, 0, 16)
	isPart(t, m, regA, 0, 0, 32)
	isPart(t, m, regFlag, 1, 0, 1)
	isPart(t, m, regHigh, 0, 16, 16)
	isPart(t, m, regMid, 0, 12, 16)
	isPart(t, m, regP, 2, 0, 16)
	isPart(t, m, regW, 3, 0, 64)
	isPart(t, m, regTop, 3, 63, 1)
	isPart(t, api.Given(1), 0, 0, 0, 16)
	isPart(t, api.Given(1), 8, 0, 0, 8)
	isPart(t, api.Given(1), 12, 0, 8, 8)
	isPart(t, api.Given(1), 15, 3, 8, 8)
	isPart(t, api.Given(1), 18, 10, 0, 1)
	isPart(t, api.Given(2), 23, 7, 16, 16)
	isPart(t, tiny(), 0, 0, 0, 8)
}

// overlaps fails unless Overlap says so of both orders.
func overlaps(t *testing.T, m api.Machine, a, b int, want bool) {
	t.Helper()
	for range 2 {
		if is, e := machine.Overlap(m, a, b); is != want || e != api.OK {
			t.Errorf("%s %d %d: %v %d, not %v", m.Name, a, b, is, e, want)
		}
		a, b = b, a
	}
}

func TestP8_3Overlap(t *testing.T) {
	m := sample()
	for i := range m.Regs {
		overlaps(t, m, i, i, true)
	}
	overlaps(t, m, regLow, regA, true)
	overlaps(t, m, regHigh, regA, true)
	overlaps(t, m, regLow, regHigh, false)
	overlaps(t, m, regLow, regMid, true)
	overlaps(t, m, regHigh, regMid, true)
	overlaps(t, m, regTop, regW, true)
	overlaps(t, m, regA, regW, false)
	overlaps(t, m, regLow, regP, false)
	overlaps(t, m, regLow, regW, false)
	overlaps(t, m, regTop, regA, false)
	overlaps(t, m, regFlag, regTop, false)
	m = api.Given(1)
	overlaps(t, m, 8, 0, true)
	overlaps(t, m, 8, 12, false)
	overlaps(t, m, 8, 9, false)
	overlaps(t, m, 12, 0, true)
}

// TestP8_3AllBits moves two parts past each other: they overlap if there is a bit that both have.
func TestP8_3AllBits(t *testing.T) {
	for _, width := range []int{1, 2, 3, 7} {
		for _, many := range []int{1, 2, 5} {
			for low := range 8 {
				for from := range 8 {
					m := tiny()
					m.Regs = []api.MachReg{{Name: "b", Width: many, Of: 2, Low: from}, {Name: "c", Width: width, Of: 2, Low: low}, {Name: "a", Width: 15, Of: -1}}
					common := false
					for i := range 15 {
						common = common || low <= i && i < low+width && from <= i && i < from+many
					}
					overlaps(t, m, 0, 1, common)
				}
			}
		}
	}
}

// TestP8_3NoRegister has indices that are none, also where other arguments are wrong too.
func TestP8_3NoRegister(t *testing.T) {
	for _, m := range machines() {
		for _, reg := range []int{-1, -2, len(m.Regs), len(m.Regs) + 1, 64, math.MaxInt, math.MinInt} {
			if root, low, width, e := machine.Part(m, reg); e != api.ErrArg || root != 0 || low != 0 || width != 0 {
				t.Errorf("part %d: %d %d %d %d", reg, root, low, width, e)
			}
			for _, other := range []int{0, reg, -1} {
				for _, pair := range [][2]int{{reg, other}, {other, reg}} {
					if is, e := machine.Overlap(m, pair[0], pair[1]); e != api.ErrArg || is {
						t.Errorf("overlap %v: %v %d", pair, is, e)
					}
				}
			}
			for _, roots := range [][]uint64{nil, make([]uint64, len(m.Regs)), {math.MaxUint64}} {
				reads(t, m, roots, reg, 0, api.ErrArg)
				writes(t, m, roots, reg, 0, api.ErrArg)
				writes(t, m, roots, reg, math.MaxUint64, api.ErrArg)
			}
		}
	}
}

// reads fails unless Read has this result.
func reads(t *testing.T, m api.Machine, roots []uint64, reg int, want uint64, wanted api.Errno) {
	t.Helper()
	if x, e := machine.Read(m, roots, reg); x != want || e != wanted {
		t.Errorf("%s %x %d: %x %d, not %x %d", m.Name, roots, reg, x, e, want, wanted)
	}
}

// writes fails unless Write has this result.
func writes(t *testing.T, m api.Machine, roots []uint64, reg int, x uint64, wanted api.Errno, want ...uint64) {
	t.Helper()
	if l, e := machine.Write(m, roots, reg, x); !slices.Equal(l, want) || e != wanted {
		t.Errorf("%s %x %d %x: %x %d, not %x %d", m.Name, roots, reg, x, l, e, want, wanted)
	}
}

func TestP8_4Example(t *testing.T) {
	m := api.Given(1)
	roots := make([]uint64, 11)
	roots[0] = 4660
	after := slices.Clone(roots)
	after[0] = 4863
	reads(t, m, roots, 12, 18, api.OK)
	writes(t, m, roots, 8, 255, api.OK, after...)
	reads(t, m, after, 0, 4863, api.OK)
}

func TestP8_4ReadAndWrite(t *testing.T) {
	m := sample()
	roots := []uint64{0x12345678, 1, 0xabcd, 0x8123456789abcdef}
	for reg, want := range map[int]uint64{regLow: 0x5678, regA: 0x12345678, regFlag: 1, regHigh: 0x1234, regMid: 0x2345, regP: 0xabcd, regW: 0x8123456789abcdef, regTop: 1} {
		reads(t, m, roots, reg, want, api.OK)
		writes(t, m, roots, reg, want, api.OK, roots...)
	}
	writes(t, m, roots, regLow, 0xffff, api.OK, 0x1234ffff, 1, 0xabcd, 0x8123456789abcdef)
	writes(t, m, roots, regLow, 0, api.OK, 0x12340000, 1, 0xabcd, 0x8123456789abcdef)
	writes(t, m, roots, regA, 0xffffffff, api.OK, 0xffffffff, 1, 0xabcd, 0x8123456789abcdef)
	writes(t, m, roots, regFlag, 0, api.OK, 0x12345678, 0, 0xabcd, 0x8123456789abcdef)
	writes(t, m, roots, regHigh, 0xfffe, api.OK, 0xfffe5678, 1, 0xabcd, 0x8123456789abcdef)
	writes(t, m, roots, regMid, 0xedcb, api.OK, 0x1edcb678, 1, 0xabcd, 0x8123456789abcdef)
	writes(t, m, roots, regP, 0xffff, api.OK, 0x12345678, 1, 0xffff, 0x8123456789abcdef)
	writes(t, m, roots, regW, math.MaxUint64, api.OK, 0x12345678, 1, 0xabcd, math.MaxUint64)
	writes(t, m, roots, regTop, 0, api.OK, 0x12345678, 1, 0xabcd, 0x0123456789abcdef)
}

// TestP8_4Errors has wrong values of the roots, also together with numbers that are too great.
func TestP8_4Errors(t *testing.T) {
	m := sample()
	right := []uint64{1<<32 - 1, 1, 1<<16 - 1, math.MaxUint64}
	for reg := range m.Regs {
		for _, wrong := range [][]uint64{nil, {}, right[:3], append(slices.Clone(right), 0), {1 << 32, 1, 1, 1}, {1, 2, 1, 1}, {1, 1, 1 << 16, 1}, make([]uint64, 8), {math.MaxUint64, math.MaxUint64, math.MaxUint64, math.MaxUint64}, make([]uint64, 1<<16)} {
			reads(t, m, wrong, reg, 0, api.ErrWidth)
			writes(t, m, wrong, reg, 0, api.ErrWidth)
			writes(t, m, wrong, reg, math.MaxUint64, api.ErrWidth)
		}
		if width := m.Regs[reg].Width; width < 64 {
			for _, x := range []uint64{1 << width, 1<<width + 1, 1 << 63, math.MaxUint64} {
				writes(t, m, right, reg, x, api.ErrRange)
			}
			if _, e := machine.Write(m, right, reg, 1<<width-1); e != api.OK {
				t.Error(reg, e)
			}
		}
	}
}
