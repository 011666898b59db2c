package state_test

import (
	"math"
	"testing"

	"retarget/api"
	"retarget/machine"
	"retarget/state"
)

// TestP14_2Example has the chapter's example.
func TestP14_2Example(t *testing.T) {
	m := api.Given(1)
	al, ah := must(machine.Register(m, "al")), must(machine.Register(m, "ah"))
	if al != 8 || ah != 12 {
		t.Fatal(al, ah)
	}
	s := must(state.SetReg(m, must(state.New(m)), 0, 4660))
	reads(t, m, s, ah, 18)
	s = must(state.SetReg(m, s, al, 255))
	reads(t, m, s, 0, 4863)
	want := must(state.New(m))
	want.Regs[0] = 4863
	gives(t, m.Name, s, api.OK, want)
}

func TestP14_2(t *testing.T) {
	m, s := mixed(), valid()
	s.Regs[0], s.Regs[2] = 0x12345678, 1<<63
	for reg, want := range []uint64{regLow: 0x5678, regA: 0x12345678, regFlag: 1, regMid: 0x2345, regW: 1 << 63, regTop: 1, regOdd: 1<<33 - 1, regHigh: 0x1234} {
		reads(t, m, s, reg, want)
	}
	for reg, c := range []struct {
		x, most uint64
		want    []uint64
	}{
		regLow:  {0xabcd, 0xffff, []uint64{0x1234abcd, 1, 1 << 63, 1<<33 - 1}},
		regA:    {0xabcdef01, 1<<32 - 1, []uint64{0xabcdef01, 1, 1 << 63, 1<<33 - 1}},
		regFlag: {0, 1, []uint64{0x12345678, 0, 1 << 63, 1<<33 - 1}},
		regMid:  {0xabcd, 0xffff, []uint64{0x1abcd678, 1, 1 << 63, 1<<33 - 1}},
		regW:    {0x123456789abcdef0, math.MaxUint64, []uint64{0x12345678, 1, 0x123456789abcdef0, 1<<33 - 1}},
		regTop:  {0, 1, []uint64{0x12345678, 1, 0, 1<<33 - 1}},
		regOdd:  {1 << 32, 1<<33 - 1, []uint64{0x12345678, 1, 1 << 63, 1 << 32}},
		regHigh: {0, 0xffff, []uint64{0x5678, 1, 1 << 63, 1<<33 - 1}},
	} {
		want := copyOf(s)
		want.Regs = c.want
		sets(t, m, s, reg, c.x, want)
		sets(t, m, s, reg, c.most, withValue(m, s, reg, c.most))
		if c.most != math.MaxUint64 {
			noSet(t, m, s, reg, c.most+1, api.ErrRange)
			noSet(t, m, s, reg, math.MaxUint64, api.ErrRange)
		}
	}
}

// TestP14_2Chance has all registers of machines and states by chance.
func TestP14_2Chance(t *testing.T) {
	r := newMaker(4)
	for i := range 300 {
		m := r.machine()
		if i < 30 {
			m = machines()[i%5]
		}
		s := r.state(m, 5)
		for reg, x := range m.Regs {
			v := r.bits(x.Width)
			reads(t, m, s, reg, valueOf(m, s, reg))
			sets(t, m, s, reg, v, withValue(m, s, reg, v))
			if x.Width < 64 {
				noSet(t, m, s, reg, v|1<<x.Width, api.ErrRange)
				noSet(t, m, s, reg, v|1<<63, api.ErrRange)
			}
		}
		if t.Failed() {
			t.Fatal(m)
		}
	}
}

// TestP14_2Arg has indices that are none of a register; their error comes before that of a value.
func TestP14_2Arg(t *testing.T) {
	r := newMaker(5)
	for _, m := range append(machines(), r.machine()) {
		s := r.state(m, 5)
		for _, reg := range append([]int{len(m.Regs), len(m.Regs) + 1}, extremes...) {
			noReg(t, m, s, reg, 0, api.ErrArg)
			noReg(t, m, s, reg, math.MaxUint64, api.ErrArg)
		}
		last := len(m.Regs) - 1
		reads(t, m, s, last, valueOf(m, s, last))
		sets(t, m, s, last, 0, withValue(m, s, last, 0))
	}
}
