package ambiguous_test

import (
	"slices"
	"testing"

	"retarget/ambiguous"
	"retarget/api"
)

// commonIs fails unless two instructions have this least word in common, or none, whichever comes first, and clash accordingly.
func commonIs(t *testing.T, m api.Machine, a, b int, word uint64, want bool) {
	t.Helper()
	for range 2 {
		if x, is, e := ambiguous.Common(m, a, b); x != word || is != want || e != api.OK {
			t.Errorf("%d %d: %x %v %v, not %x %v", a, b, x, is, e, word, want)
		}
		a, b = b, a
	}
	l := slices.DeleteFunc(must(ambiguous.Clashes(m)), func(c api.MachClash) bool { return c.A != min(a, b) || c.B != max(a, b) })
	if clash := want && a != b; clash != (len(l) == 1) || clash && l[0].Word != word {
		t.Errorf("%d %d: clashes %v", a, b, l)
	}
}

func TestP11_2Common(t *testing.T) {
	for _, c := range []struct {
		size int
		a, b api.MachInstr
		word uint64
		is   bool
	}{
		// The chapter's example, and masks that contradict each other, or not.
		{1, instr(0x80, 0x80, number(api.OperandSigned, 0, 0, 7)), instr(0x40, 0x40, number(api.OperandSigned, 0, 0, 6, 7, 1)), 0xc0, true},
		{1, instr(0xf0, 0x40), instr(0xf0, 0x50), 0, false},
		{1, instr(0xf0, 0x40), instr(0xff, 0x40), 0x40, true},
		{1, instr(0xff, 0x40), instr(0xff, 0x41), 0, false},
		{1, instr(0, 0), instr(0, 0), 0, true},
		{4, instr(0xffffffff, 0xffffffff), instr(0xffffffff, 0xffffffff), 0xffffffff, true},
		{4, instr(0x80000000, 0x80000000), instr(0x80000000, 0), 0, false},
		// A bit that one has as 1 is neither in Mask nor in a piece of the other one.
		{1, instr(0xf0, 0x40), instr(0xff, 0x41), 0, false},
		{1, instr(0x80, 0x80), instr(0x40, 0x40), 0, false},
		{1, instr(0x80, 0x80), instr(0x40, 0, number(api.OperandSigned, 0, 7, 1)), 0x80, true},
		{1, instr(0x80, 0x80, number(api.OperandSigned, 0, 6, 1)), instr(0x40, 0x40), 0, false},
		// A bit that one has as 1 makes the number of a register of the other one.
		{1, instr(0xf0, 0x40, register(bank3, 0, 2), register(bank3, 2, 2)), instr(0xff, 0x4a), 0x4a, true},
		{1, instr(0xf0, 0x40, register(bank3, 0, 2), register(bank3, 2, 2)), instr(0xff, 0x4b), 0, false},
		{1, instr(0xf0, 0x40, register(bank3, 0, 2), register(bank3, 2, 2)), instr(0xff, 0x4e), 0, false},
		{1, instr(0xc0, 0x80, register(bank3, 0, 2), number(api.OperandSigned, 0, 2, 4)), instr(0xff, 0x8e), 0x8e, true},
		{1, instr(0xc0, 0x80, register(bank3, 0, 2), number(api.OperandSigned, 0, 2, 4)), instr(0xff, 0x8f), 0, false},
		{1, instr(0x80, 0x80, register(bank5, 6, 1, 0, 2)), instr(0xc1, 0xc1, register(bank2, 1, 1)), 0xc1, true},
		{1, instr(0x80, 0x80, register(bank5, 6, 1, 0, 2)), instr(0xc2, 0xc2, register(bank2, 0, 1)), 0, false},
		// Registers of both at the same place: only the bits of the matches are 1.
		{1, instr(0xe0, 0x20, register(bank5, 0, 3), register(bank3, 3, 2)), instr(0xe0, 0x20, register(bank3, 3, 2), register(bank8, 0, 3)), 0x20, true},
		{1, instr(0x81, 0x01, register(bank8, 4, 3)), instr(0x86, 0x04, register(bank3, 4, 2), number(api.OperandSigned, 0, 0, 1)), 0, false},
		{1, instr(0x81, 0x01, register(bank8, 2, 3)), instr(0x86, 0x04, register(bank3, 4, 2), number(api.OperandSigned, 0, 0, 1)), 0x05, true},
		{4, instr(0xf0000000, 0x90000000, number(api.OperandSigned, 0, 0, 16)), instr(0x00000fff, 0x00000abc, register(bank64, 28, 4, 12, 2)), 0x90000abc, true},
		{4, instr(0xf0000000, 0x90000000, number(api.OperandSigned, 0, 0, 16)), instr(0x00000fff, 0x00000abc, register(bank5, 28, 4)), 0, false},
		// A register that is tied has no bits.
		{1, instr(0xf0, 0x10, register(bank3, 1, 2), tied(bank3, 0)), instr(0xff, 0x14), 0x14, true},
		{1, instr(0xf0, 0x10, register(bank3, 1, 2), tied(bank3, 0)), instr(0xff, 0x16), 0, false},
		{1, instr(0xf0, 0x10, register(bank3, 1, 2), tied(bank3, 0)), instr(0xff, 0x11), 0, false},
	} {
		m := made(c.size, instr(0xff, 0xff), c.a, c.b)
		commonIs(t, m, 1, 2, c.word, c.is)
		commonIs(t, m, 1, 1, c.a.Match, true)
		commonIs(t, m, 2, 2, c.b.Match, true)
	}
}

// TestP11_2Words holds Common and Clashes against all words of small machines.
func TestP11_2Words(t *testing.T) {
	r := newMaker(2)
	met := [2]int{}
	for i := range 500 {
		m := r.machine(1, 8)
		if i%100 == 0 {
			m = r.machine(2, 5)
		}
		owners := table(m)
		var want []api.MachClash
		for a := range m.Instrs {
			for b := range m.Instrs {
				word, is := leastOf(owners, a, b)
				if is && a < b {
					want = append(want, api.MachClash{A: a, B: b, Word: word})
				}
				if a != b && is {
					met[1]++
				} else if a != b {
					met[0]++
				}
				if x, yes, e := ambiguous.Common(m, a, b); x != word || yes != is || e != api.OK {
					t.Fatalf("%v: %d %d: %x %v %v, not %x %v", m.Instrs, a, b, x, yes, e, word, is)
				}
			}
		}
		if l, e := ambiguous.Clashes(m); !slices.Equal(l, want) || e != api.OK {
			t.Fatalf("%v: %v %v, not %v", m.Instrs, l, e, want)
		}
	}
	if slices.Min(met[:]) < 1000 {
		t.Error(met)
	}
}

// moved puts the words of a machine with one byte a word into a byte of wider ones, the other bits of which are always the same.
func moved(m api.Machine, size, up int, rest uint64) api.Machine {
	wide := made(size)
	for _, i := range m.Instrs {
		i.Operands = slices.Clone(i.Operands)
		for at, o := range i.Operands {
			l := slices.Clone(o.Pieces)
			for p := range l {
				l[p].At += up
			}
			i.Operands[at].Pieces = l
		}
		i.Mask = i.Mask<<up | (limit(wide)-1)&^(0xff<<up)
		i.Match = i.Match<<up | rest
		wide.Instrs = append(wide.Instrs, i)
	}
	return wide
}

// TestP11_2Moved moves words to each place in wider ones.
func TestP11_2Moved(t *testing.T) {
	r := newMaker(3)
	for range 150 {
		m := r.machine(1, 6)
		owners := table(m)
		for size := 2; size <= 4; size++ {
			up := r.IntN(8*size - 7)
			rest := r.Uint64N(1<<(8*size)) &^ (0xff << up)
			wide := moved(m, size, up, rest)
			var want []api.MachClash
			for a := range m.Instrs {
				for b := a + 1; b < len(m.Instrs); b++ {
					if word, is := leastOf(owners, a, b); is {
						want = append(want, api.MachClash{A: a, B: b, Word: word<<up | rest})
					}
				}
			}
			if l, e := ambiguous.Clashes(wide); !slices.Equal(l, want) || e != api.OK {
				t.Fatalf("%v: %v %v, not %v", wide.Instrs, l, e, want)
			}
			for i := range m.Instrs {
				if n, k := must(ambiguous.Count(m, i)), must(ambiguous.Count(wide, i)); n != k {
					t.Fatalf("%v: %d: %d and %d words", wide.Instrs, i, n, k)
				}
			}
		}
	}
}

func TestP11_2Order(t *testing.T) {
	m := made(1, instr(0xff, 2), instr(0xff, 1), instr(0, 0, number(api.OperandSigned, 0, 0, 8)), instr(0xff, 1), instr(0xff, 2))
	want := []api.MachClash{{A: 0, B: 2, Word: 2}, {A: 0, B: 4, Word: 2}, {A: 1, B: 2, Word: 1}, {A: 1, B: 3, Word: 1}, {A: 2, B: 3, Word: 1}, {A: 2, B: 4, Word: 2}}
	if l := must(ambiguous.Clashes(m)); !slices.Equal(l, want) {
		t.Error(l)
	}
	var many []api.MachInstr
	for range api.MaxInstrs {
		many = append(many, instr(0x80, 0x80))
	}
	want = nil
	for a := range 64 {
		for b := a + 1; b < 64; b++ {
			want = append(want, api.MachClash{A: a, B: b, Word: 0x80})
		}
	}
	if l := must(ambiguous.Clashes(made(1, many...))); !slices.Equal(l, want) || len(l) != 2016 {
		t.Error(len(l))
	}
}

func TestP11_2None(t *testing.T) {
	for k := range 3 {
		if l, e := ambiguous.Clashes(api.Given(k)); len(l) > 0 || e != api.OK {
			t.Error(k, l, e)
		}
	}
	for _, m := range []api.Machine{made(1), made(1, instr(0, 0))} {
		if l, e := ambiguous.Clashes(m); len(l) > 0 || e != api.OK {
			t.Error(l, e)
		}
	}
}

func TestP11_2Errors(t *testing.T) {
	m := made(1, instr(0xff, 1), instr(0xff, 1))
	for _, i := range append([]int{2, 3}, noIndices...) {
		for _, pair := range [][2]int{{i, 0}, {1, i}, {i, i}, {i, 2}} {
			if word, is, e := ambiguous.Common(m, pair[0], pair[1]); word != 0 || is || e != api.ErrArg {
				t.Error(pair, word, is, e)
			}
		}
	}
	if word, is, e := ambiguous.Common(made(1), 0, 0); word != 0 || is || e != api.ErrArg {
		t.Error(word, is, e)
	}
	commonIs(t, m, 0, 1, 1, true)
}
