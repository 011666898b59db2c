package ambiguous_test

import (
	"math"
	"math/big"
	"slices"
	"testing"

	"retarget/ambiguous"
	"retarget/api"
)

// upTo returns the words from one on that are below another one.
func upTo(from, end uint64) []uint64 {
	var l []uint64
	for word := from; word < end; word++ {
		l = append(l, word)
	}
	return l
}

// holesAre fails unless Holes returns the words.
func holesAre(t *testing.T, m api.Machine, from uint64, count int, want []uint64) {
	t.Helper()
	if l, e := ambiguous.Holes(m, from, count); !slices.Equal(l, want) || e != api.OK {
		t.Errorf("%x %d: %x %v, not %x", from, count, l, e, want)
	}
}

func TestP11_3Holes(t *testing.T) {
	m := made(1, instr(0xf0, 0x40, register(bank3, 0, 2), register(bank3, 2, 2)), instr(0xff, 0x43))
	holesAre(t, m, 0, 256, slices.Concat(upTo(0, 0x40), []uint64{0x47}, upTo(0x4b, 256)))
	holesAre(t, m, 0x40, 12, []uint64{0x47, 0x4b})
	holesAre(t, m, 0x47, 1, []uint64{0x47})
	holesAre(t, m, 0x48, 1, nil)
	holesAre(t, m, 0x47, 0, nil)
	holesAre(t, m, 0x48, 3, nil)
	holesAre(t, m, 0x46, 6, []uint64{0x47, 0x4b})
	holesAre(t, m, 255, 1, []uint64{255})
	holesAre(t, m, 256, 0, nil)
	holesAre(t, m, 0, 0, nil)
	holesAre(t, made(1), 0, 256, upTo(0, 256))
	holesAre(t, made(1, instr(0, 0, number(api.OperandSigned, 0, 0, 8))), 0, 256, nil)
}

// TestP11_3Ends has the first and the last words of each size.
func TestP11_3Ends(t *testing.T) {
	for size := 1; size <= 4; size++ {
		all := limit(made(1))
		if size > 1 {
			all = api.MaxHoles
		}
		end := limit(made(size))
		m := made(size, instr(end-1, 0), instr(end-1, end-1), instr(end-1, end-3))
		holesAre(t, m, 0, int(all), slices.DeleteFunc(upTo(0, all), func(word uint64) bool { return word == 0 || word == end-1 || word == end-3 }))
		holesAre(t, m, end-all, int(all), slices.DeleteFunc(upTo(end-all, end), func(word uint64) bool { return word == 0 || word == end-1 || word == end-3 }))
		holesAre(t, m, end-5, 5, []uint64{end - 5, end - 4, end - 2})
		holesAre(t, m, end-1, 1, nil)
		holesAre(t, m, end-2, 1, []uint64{end - 2})
		holesAre(t, m, end, 0, nil)
	}
}

// TestP11_3Given has words between the instructions of the given machines.
func TestP11_3Given(t *testing.T) {
	holesAre(t, api.Given(0), 0, 4096, upTo(1, 4096))
	holesAre(t, api.Given(0), 0xfffff000, 4096, upTo(0xfffff000, 1<<32))
	holesAre(t, api.Given(1), 0, 0x22, slices.DeleteFunc(upTo(0, 0x22), func(word uint64) bool { return word%16 == 0 }))
	holesAre(t, api.Given(1), 0x400, 0x400, nil)
	holesAre(t, api.Given(2), 0x00fffffe, 5, []uint64{0xfffffe, 0xffffff, 0x1000001, 0x1000002})
}

// TestP11_3Words holds Holes against the definition for words by chance.
func TestP11_3Words(t *testing.T) {
	r := newMaker(4)
	for i := range 800 {
		m := r.machine(1+i%4, 6)
		from := r.word(m)
		count := int(min(r.Uint64N(150), limit(m)-from))
		var want []uint64
		for word := from; word < from+uint64(count); word++ {
			if len(ownersOf(m, word)) == 0 {
				want = append(want, word)
			}
		}
		holesAre(t, m, from, count, want)
	}
}

func TestP11_3HolesErrors(t *testing.T) {
	for size := 1; size <= 4; size++ {
		m := made(size, instr(0, 0))
		end := limit(m)
		for _, count := range append([]int{4097, 5000, 1 << 16}, noIndices...) {
			for _, from := range []uint64{0, 1, end - 1, end, end + 1, math.MaxUint64, uint64(-count)} {
				if l, e := ambiguous.Holes(m, from, count); len(l) > 0 || e != api.ErrArg {
					t.Errorf("%d bytes, %x %d: %v %v", size, from, count, l, e)
				}
			}
		}
		for _, c := range []struct {
			from  uint64
			count int
		}{
			{end + 1, 0}, {end + 1, 1}, {end, 1}, {end - 1, 2}, {end - 255, 256}, {end - 3, 4}, {end, 4096}, {end - 100, 4096}, {2 * end, 0}, {1 << 33, 5},
			{math.MaxUint64, 0}, {math.MaxUint64, 1}, {math.MaxUint64, 2}, {math.MaxUint64, 4096}, {math.MaxUint64 - 4095, 4096}, {1 << 63, 4096}, {1<<64 - 100, 200},
		} {
			if l, e := ambiguous.Holes(m, c.from, c.count); len(l) > 0 || e != api.ErrRange {
				t.Errorf("%d bytes, %x %d: %v %v", size, c.from, c.count, l, e)
			}
		}
	}
	for _, c := range []struct {
		from  uint64
		count int
		want  api.Errno
	}{{0, 256, api.OK}, {0, 257, api.ErrRange}, {1, 255, api.OK}, {1, 256, api.ErrRange}, {0, 4096, api.ErrRange}, {0, 4097, api.ErrArg}, {300, -1, api.ErrArg}} {
		if _, e := ambiguous.Holes(made(1), c.from, c.count); e != c.want {
			t.Errorf("%d %d: %v", c.from, c.count, e)
		}
	}
}

func TestP11_3Count(t *testing.T) {
	for _, c := range []struct {
		size  int
		instr api.MachInstr
		want  uint64
	}{
		{1, instr(0, 0), 1}, {4, instr(0, 0), 1}, {4, instr(0xffffffff, 7), 1}, {2, instr(0xf0, 0), 1},
		{1, instr(0, 0, number(api.OperandSigned, 0, 0, 8)), 256},
		{1, instr(0xc0, 0x80, register(bank3, 0, 2), number(api.OperandSigned, 0, 2, 4)), 48},
		{1, instr(0xf0, 0x40, register(bank3, 0, 2), register(bank3, 2, 2)), 9},
		{1, instr(0xf0, 0x40, register(bank3, 0, 2), tied(bank3, 0)), 3},
		{1, instr(0xf0, 0x40, register(bank3, 0, 2), tied(bank3, 0), tied(bank3, 0), tied(bank3, 0)), 3},
		{1, instr(0, 0, register(bank1, 0, 8)), 1}, {1, instr(0, 0, register(bank64, 0, 8)), 64}, {1, instr(0, 0, register(bank2, 7, 1, 0, 1)), 2},
		{4, instr(0, 0, register(bank64, 0, 32)), 64},
		{4, instr(0, 0, number(api.OperandJump, 0, 0, 32)), 1 << 32},
		{4, instr(0, 0, number(api.OperandSigned, 0, 16, 16), number(api.OperandUnsigned, 3, 0, 16)), 1 << 32},
		{4, instr(0x80000000, 0x80000000, number(api.OperandJump, 1, 0, 31)), 1 << 31},
		{4, instr(0, 0, number(api.OperandUnsigned, 3, 3, 2, 0, 1, 30, 1), register(bank5, 8, 3), register(bank8, 20, 3), number(api.OperandSigned, 0, 31, 1)), 16 * 5 * 8 * 2},
		{4, instr(0, 0, register(bank64, 0, 8), register(bank64, 8, 8), register(bank64, 16, 8), register(bank64, 24, 8)), 1 << 24},
	} {
		m := made(c.size, instr(0, 0, number(api.OperandSigned, 0, 0, 3)), c.instr)
		if n, e := ambiguous.Count(m, 1); n != c.want || e != api.OK {
			t.Errorf("%v: %d %v, not %d", c.instr, n, e, c.want)
		}
		if n, e := ambiguous.Count(m, 0); n != 8 || e != api.OK {
			t.Error(n, e)
		}
	}
}

func TestP11_3CountErrors(t *testing.T) {
	m := made(1, instr(0, 0), instr(0, 0))
	for _, i := range append([]int{2, 3, 64}, noIndices...) {
		if n, e := ambiguous.Count(m, i); n != 0 || e != api.ErrArg {
			t.Error(i, n, e)
		}
		if n, e := ambiguous.Count(made(1), i); n != 0 || e != api.ErrArg {
			t.Error(i, n, e)
		}
	}
}

// TestP11_3CountWords counts the words of small machines.
func TestP11_3CountWords(t *testing.T) {
	r := newMaker(5)
	for i := range 300 {
		m := r.machine(1, 6)
		if i%50 == 0 {
			m = r.machine(2, 3)
		}
		counts := make([]uint64, len(m.Instrs))
		for _, l := range table(m) {
			for _, owner := range l {
				counts[owner]++
			}
		}
		for at, want := range counts {
			if n, e := ambiguous.Count(m, at); n != want || e != api.OK {
				t.Fatalf("%v: %d %v, not %d", m.Instrs[at], n, e, want)
			}
		}
	}
}

// TestP11_3CountGiven has the instructions of the given machines: the numbers of their registers and of the values of the other fields.
func TestP11_3CountGiven(t *testing.T) {
	for k := range 3 {
		m := api.Given(k)
		for i, x := range m.Instrs {
			want := big.NewInt(1)
			for _, o := range x.Operands {
				values := int64(1)
				for _, p := range o.Pieces {
					values *= int64(1) << p.Len
				}
				if o.Kind == api.OperandReg && o.Tied == -1 {
					values = int64(len(m.Banks[o.Bank].Regs))
				}
				want.Mul(want, big.NewInt(values))
			}
			if n, e := ambiguous.Count(m, i); n != want.Uint64() || e != api.OK {
				t.Errorf("%s %s: %d %v, not %v", m.Name, x.Name, n, e, want)
			}
		}
	}
	for _, c := range []struct {
		machine int
		instr   string
		want    uint64
	}{{0, "add", 4096}, {0, "addi", 1 << 24}, {0, "jump", 1 << 26}, {0, "nop", 1}, {0, "jr", 16}, {1, "movh", 1024}, {1, "add", 64}, {1, "zext", 64}, {2, "mac", 512}, {2, "li", 1 << 24}, {2, "seth", 1 << 19}} {
		m := api.Given(c.machine)
		at := slices.IndexFunc(m.Instrs, func(i api.MachInstr) bool { return i.Name == c.instr })
		if n, e := ambiguous.Count(m, at); n != c.want || e != api.OK {
			t.Errorf("%s %s: %d %v, not %d", m.Name, c.instr, n, e, c.want)
		}
	}
}
