package encode_test

import (
	"math"
	"testing"

	"retarget/api"
	"retarget/encode"
	"retarget/machine"
)

// named returns the op of the instruction with the name.
func named(m api.Machine, name string, args ...int) api.MachOp {
	return api.MachOp{Instr: must(machine.Instruction(m, name)), Args: args}
}

// TestP12_1Given has ops of the given machines, the chapter's examples first.
func TestP12_1Given(t *testing.T) {
	for _, c := range []struct {
		machine int
		name    string
		args    []int
		word    uint64
	}{
		{0, "add", []int{1, 2, 3}, 0x0048c000}, {0, "jump", []int{-1}, 0x83ffffff}, {1, "add", []int{0, 0, 1}, 3088},
		// Numbers and registers at their bounds.
		{0, "add", []int{0, 0, 0}, 0}, {0, "add", []int{15, 15, 15}, 0x03ffc000},
		{0, "addi", []int{0, 0, -32768}, 0x2c008000}, {0, "addi", []int{0, 0, 32767}, 0x2c007fff}, {0, "andi", []int{0, 0, 65535}, 0x3000ffff},
		{0, "shli", []int{0, 0, 31}, 0x3c00001f}, {0, "jump", []int{-1 << 25}, 0x82000000}, {0, "jump", []int{1<<25 - 1}, 0x81ffffff},
		// Banks of parts, and an instruction without operands.
		{1, "movi", []int{7, -64}, 0x07c0}, {1, "movi", []int{7, 63}, 0x07bf}, {1, "ret", nil, 0x9800},
		{1, "movb", []int{15, 8}, 0x6380},
		// Numbers that count twice and four times, and fields of two pieces.
		{2, "ld", []int{0, 0, -65536}, 0x16004000}, {2, "ld", []int{0, 0, 65532}, 0x16003fff}, {2, "ldl", []int{8, 0, 2}, 0x17000001},
		{2, "li", []int{0, 63}, 0x0e1f8000}, {2, "li", []int{0, 64}, 0x0e000001}, {2, "li", []int{0, -1 << 20}, 0x0e004000}, {2, "li", []int{0, 1<<20 - 1}, 0x0e1fbfff},
		{2, "seth", []int{16, 65535}, 0x0f047fff}, {2, "seth", []int{23, 32768}, 0x0fe40000},
	} {
		m := api.Given(c.machine)
		encodes(t, m, named(m, c.name, c.args...), c.word)
		decodes(t, m, c.word, named(m, c.name, c.args...))
	}
}

// forms are instructions with one op or more each, and the words of these.
var forms = []struct {
	size  int
	instr api.MachInstr
	ops   []word
}{
	// The word is Match where there are no fields, and 0 outside Mask.
	{1, instr(0xff, 0x5a), []word{{nil, 0x5a}}},
	{4, instr(0xffffffff, 0xffffffff), []word{{nil, 0xffffffff}}},
	{2, instr(0x0ff0, 0x0810), []word{{nil, 0x0810}}},
	{3, instr(0, 0), []word{{nil, 0}}},
	{3, instr(0xf00000, 0xa00000, number(api.OperandUnsigned, 0, 4, 8)), []word{{args(0), 0xa00000}, {args(255), 0xa00ff0}, {args(0x5a), 0xa005a0}}},
	// A register has its place in the bank, which begins with the register 11 + 3 * bank, and goes on with each fifth one.
	{1, instr(0xf0, 0x40, register(bank3, 0, 2), register(bank3, 2, 2)), []word{{args(17, 17), 0x40}, {args(22, 17), 0x41}, {args(17, 22), 0x44}, {args(27, 22), 0x46}, {args(27, 27), 0x4a}}},
	{1, instr(0, 0, register(bank1, 3, 1)), []word{{args(11), 0}}},
	{4, instr(0, 0, register(bank64, 0, 32)), []word{{args(26), 0}, {args(31), 1}, {args(21), 63}, {args(2), 8}}},
	{4, instr(0xff, 0xff, register(bank64, 26, 6)), []word{{args(26), 0xff}, {args(21), 0xfc0000ff}}},
	// The first piece has the least significant bits, of registers and of numbers.
	{1, instr(0x01, 0x01, register(bank8, 7, 1, 2, 2)), []word{{args(23), 0x01}, {args(28), 0x81}, {args(33), 0x05}, {args(43), 0x09}, {args(58), 0x8d}}},
	{2, instr(0, 0, number(api.OperandUnsigned, 0, 15, 1, 0, 1, 8, 1, 4, 1)), []word{{args(1), 0x8000}, {args(2), 1}, {args(4), 0x100}, {args(8), 0x10}, {args(15), 0x8111}}},
	{2, instr(0xf000, 0x3000, number(api.OperandSigned, 0, 8, 4, 0, 4)), []word{{args(-128), 0x3008}, {args(-1), 0x3f0f}, {args(127), 0x3f07}, {args(0x12), 0x3201}}},
	// Signed and jump as two's complement, unsigned as it is, 2^Scale times.
	{1, instr(0xf0, 0x10, number(api.OperandSigned, 0, 0, 4)), []word{{args(-8), 0x18}, {args(-3), 0x1d}, {args(-1), 0x1f}, {args(0), 0x10}, {args(7), 0x17}}},
	{1, instr(0xf0, 0x10, number(api.OperandSigned, 1, 0, 4)), []word{{args(-16), 0x18}, {args(-6), 0x1d}, {args(-2), 0x1f}, {args(14), 0x17}}},
	{1, instr(0xf0, 0x10, number(api.OperandUnsigned, 3, 0, 4)), []word{{args(0), 0x10}, {args(8), 0x11}, {args(64), 0x18}, {args(120), 0x1f}}},
	{1, instr(0xf0, 0x10, number(api.OperandJump, 2, 0, 4)), []word{{args(-32), 0x18}, {args(-4), 0x1f}, {args(28), 0x17}}},
	{1, instr(0xf0, 0x10, number(api.OperandJump, 0, 3, 1)), []word{{args(-1), 0x18}, {args(0), 0x10}}},
	{4, instr(0, 0, number(api.OperandSigned, 0, 0, 32)), []word{{args(-1), 0xffffffff}, {args(math.MinInt32), 0x80000000}, {args(math.MaxInt32), 0x7fffffff}}},
	{4, instr(0, 0, number(api.OperandUnsigned, 0, 0, 32)), []word{{args(math.MaxUint32), 0xffffffff}, {args(1 << 31), 0x80000000}}},
	{4, instr(0, 0, number(api.OperandJump, 0, 16, 16, 0, 16)), []word{{args(-2), 0xfffeffff}, {args(0x12345678), 0x56781234}}},
	{4, instr(7, 5, number(api.OperandUnsigned, 3, 3, 29)), []word{{args(1<<32 - 8), 0xfffffffd}, {args(8), 0xd}}},
	{4, instr(7, 5, number(api.OperandSigned, 3, 3, 29)), []word{{args(-8), 0xfffffffd}, {args(-1 << 31), 0x80000005}}},
	// An operand that is tied has no bits, wherever it stands.
	{1, instr(0xf0, 0x10, register(bank3, 1, 2), tied(bank3, 0)), []word{{args(17, 17), 0x10}, {args(22, 22), 0x12}, {args(27, 27), 0x14}}},
	{2, instr(0xf, 0x9, number(api.OperandUnsigned, 0, 4, 4), register(bank5, 8, 3), register(bank5, 12, 3), tied(bank5, 1)), []word{{args(7, 25, 40, 25), 0x4179}, {args(0, 40, 25, 40), 0x1409}}},
	{1, instr(0x80, 0x80, register(bank3, 0, 2), tied(bank3, 0), tied(bank3, 0), number(api.OperandSigned, 0, 4, 2)), []word{{args(27, 27, 27, -2), 0xa2}}},
	// Four operands in another order than their bits.
	{2, instr(0, 0, register(bank8, 5, 3), number(api.OperandUnsigned, 0, 0, 5), register(bank2, 15, 1), number(api.OperandSigned, 0, 8, 7)), []word{{args(58, 1, 19, -64), 0xc0e1}, {args(23, 30, 14, 63), 0x3f1e}}},
}

// A word of an op with these arguments.
type word struct {
	args []int
	word uint64
}

func args(l ...int) []int { return l }

func TestP12_1Forms(t *testing.T) {
	for _, f := range forms {
		m := made(f.size, instr(0xff, 0xff), f.instr)
		for _, w := range f.ops {
			encodes(t, m, api.MachOp{Instr: 1, Args: w.args}, w.word)
		}
	}
}

func TestP12_2Forms(t *testing.T) {
	for _, f := range forms {
		m := made(f.size, f.instr)
		for _, w := range f.ops {
			decodes(t, m, w.word, api.MachOp{Args: w.args})
		}
	}
}

// TestP12_1Chance holds Encode against the definition for ops by chance.
func TestP12_1Chance(t *testing.T) {
	r := newMaker(1)
	all := []api.Machine{api.Given(0), api.Given(1), api.Given(2)}
	for i := range 300 {
		all = append(all, r.machine(1+i%4, 5))
	}
	for _, m := range all {
		for i := range m.Instrs {
			for range 6 {
				op := r.op(m, i)
				if word, e := encode.Encode(m, op); word != wordOf(m, op) || e != api.OK {
					t.Fatalf("%v of %v: %x %v, not %x", op, m.Instrs[i], word, e, wordOf(m, op))
				}
			}
		}
	}
}

// TestP12_1Errors has an error of each kind, and orders of them.
func TestP12_1Errors(t *testing.T) {
	m := made(2,
		instr(0xff, 1),
		instr(0xff, 2, register(bank3, 8, 2), tied(bank3, 0), number(api.OperandSigned, 1, 10, 3), number(api.OperandUnsigned, 0, 13, 3)),
		instr(0xff, 3, number(api.OperandJump, 0, 10, 3), register(bank3, 8, 2), tied(bank3, 1)))
	encodes(t, m, api.MachOp{Instr: 1, Args: args(22, 22, -8, 7)}, 0xf102)
	for _, c := range []struct {
		op   api.MachOp
		want api.Errno
	}{
		{api.MachOp{Instr: 3}, api.ErrNone}, {api.MachOp{Instr: -1}, api.ErrNone},
		{api.MachOp{Instr: 3, Args: args(1, 2, 3, 4, 5)}, api.ErrNone},
		{api.MachOp{Instr: 0, Args: args(0)}, api.ErrArg}, {api.MachOp{Instr: 1}, api.ErrArg},
		{api.MachOp{Instr: 1, Args: args(22, 22, 0)}, api.ErrArg}, {api.MachOp{Instr: 1, Args: args(22, 22, 0, 0, 0)}, api.ErrArg},
		{api.MachOp{Instr: 1, Args: args(0, 9, 99)}, api.ErrArg},
		{api.MachOp{Instr: 1, Args: args(0, 0, 0, 0)}, api.ErrName}, {api.MachOp{Instr: 1, Args: args(1, 1, 1, 8)}, api.ErrName},
		{api.MachOp{Instr: 1, Args: args(22, 0, 0, 0)}, api.ErrName}, {api.MachOp{Instr: 1, Args: args(32, 32, 0, 0)}, api.ErrName},
		{api.MachOp{Instr: 1, Args: args(22, 17, 0, 0)}, api.ErrDiff}, {api.MachOp{Instr: 1, Args: args(22, 27, 1, 8)}, api.ErrDiff},
		{api.MachOp{Instr: 1, Args: args(22, 22, 1, 0)}, api.ErrRange}, {api.MachOp{Instr: 1, Args: args(22, 22, 8, 0)}, api.ErrRange},
		{api.MachOp{Instr: 1, Args: args(22, 22, -10, 0)}, api.ErrRange}, {api.MachOp{Instr: 1, Args: args(22, 22, 0, 8)}, api.ErrRange},
		{api.MachOp{Instr: 1, Args: args(22, 22, 0, -1)}, api.ErrRange},
		{api.MachOp{Instr: 2, Args: args(4, 0, 1)}, api.ErrRange}, {api.MachOp{Instr: 2, Args: args(3, 0, 1)}, api.ErrName},
		{api.MachOp{Instr: 2, Args: args(-4, 17, 22)}, api.ErrDiff}, {api.MachOp{Instr: 2, Args: args(-5, 17, 22)}, api.ErrRange},
	} {
		encodesNot(t, m, c.op, c.want)
	}
}

// TestP12_1Wrong holds Encode's errors against those of layer 8 for ops that are mostly wrong.
func TestP12_1Wrong(t *testing.T) {
	r := newMaker(2)
	met := map[api.Errno]int{}
	for i := range 600 {
		m := r.machine(1+i%4, 4)
		for k := -1; k <= len(m.Instrs); k++ {
			op := api.MachOp{Instr: k, Args: make([]int, r.IntN(6))}
			if k >= 0 && k < len(m.Instrs) && r.IntN(8) > 0 {
				op = r.op(m, k)
				r.spoil(m, op)
			}
			want := machine.CheckOp(m, op)
			met[want]++
			if want != api.OK {
				encodesNot(t, m, op, want)
			} else {
				encodes(t, m, op, wordOf(m, op))
			}
		}
	}
	for _, e := range []api.Errno{api.OK, api.ErrNone, api.ErrArg, api.ErrName, api.ErrDiff, api.ErrRange} {
		if met[e] < 20 {
			t.Error(met)
		}
	}
}

// spoil changes some arguments of an op, mostly to ones that do not fit.
func (r maker) spoil(m api.Machine, op api.MachOp) {
	for at, o := range m.Instrs[op.Instr].Operands {
		switch r.IntN(10) {
		case 0:
			op.Args[at] = extremes[r.IntN(len(extremes))]
		case 1:
			op.Args[at] += r.IntN(17) - 8
		case 2, 3:
			bank := m.Banks[o.Bank].Regs
			op.Args[at] = bank[r.IntN(len(bank))]
		}
	}
}

// decodesAs fails unless Decode has what the ops with this word make of it.
func decodesAs(t *testing.T, m api.Machine, word uint64, ops []api.MachOp) {
	t.Helper()
	switch len(ops) {
	case 0:
		decodesNot(t, m, word, api.ErrForm)
	case 1:
		decodes(t, m, word, ops[0])
	default:
		decodesNot(t, m, word, api.ErrTwice)
	}
}

// TestP12_2Words has all words of small machines.
func TestP12_2Words(t *testing.T) {
	r := newMaker(3)
	met := [3]int{}
	for range 150 {
		m := r.machine(1, 6)
		owners := table(m)
		for word := range limit(m) {
			decodesAs(t, m, word, owners[word])
			met[min(len(owners[word]), 2)]++
		}
		if t.Failed() {
			t.Fatal(m.Instrs)
		}
	}
	if min(met[0], met[1], met[2]) < 1000 {
		t.Error(met)
	}
}

// TestP12_2Given has words of a given machine with words of two bytes, held against all its ops, and words of ops of the others with each bit changed.
func TestP12_2Given(t *testing.T) {
	m := api.Given(1)
	owners := table(m)
	for word := uint64(0); word < limit(m); word += 7 {
		decodesAs(t, m, word, owners[word])
	}
	r := newMaker(4)
	for _, m := range []api.Machine{api.Given(0), api.Given(2)} {
		for _, op := range r.ops(m, 30) {
			word := wordOf(m, op)
			decodes(t, m, word, op)
			for at := range 32 {
				decodesAs(t, m, word^1<<at, readers(m, word^1<<at))
			}
		}
	}
}

// TestP12_2Chance has words of machines with words of all sizes.
func TestP12_2Chance(t *testing.T) {
	r := newMaker(5)
	met := [3]int{}
	for i := range 800 {
		m := r.machine(1+i%4, 6)
		for range 10 {
			word := r.word(m)
			l := readers(m, word)
			decodesAs(t, m, word, l)
			met[min(len(l), 2)]++
		}
		if t.Failed() {
			t.Fatal(m.Instrs)
		}
	}
	if min(met[0], met[1], met[2]) < 300 {
		t.Error(met)
	}
}

func TestP12_2Form(t *testing.T) {
	m := made(2, instr(0xff00, 0xab00, register(bank3, 0, 2), number(api.OperandUnsigned, 0, 4, 2)), instr(0xffff, 0x1234))
	for _, word := range []uint64{0, 0x1235, 0xab03, 0xab04, 0xab08, 0xab40, 0xab80, 0xaa00, 0xac00, 0xffff, 0xab37} {
		decodesNot(t, m, word, api.ErrForm)
	}
	decodes(t, m, 0x1234, api.MachOp{Instr: 1})
	decodes(t, m, 0xab32, api.MachOp{Args: args(27, 3)})
	decodesNot(t, made(4), 0, api.ErrForm)
	decodesNot(t, api.Given(2), 0, api.ErrForm)
}

func TestP12_2Twice(t *testing.T) {
	// The chapter's example of layer 11, a word that is legal for three, and one that is legal twice although one of the ops is simpler.
	m := made(1, instr(128, 128, number(api.OperandUnsigned, 0, 0, 7)), instr(64, 64, number(api.OperandSigned, 0, 0, 6, 7, 1)))
	decodesNot(t, m, 192, api.ErrTwice)
	decodesNot(t, m, 255, api.ErrTwice)
	decodes(t, m, 191, api.MachOp{Args: args(63)})
	decodes(t, m, 127, api.MachOp{Instr: 1, Args: args(63)})
	decodesNot(t, m, 63, api.ErrForm)
	m = made(1, instr(0xff, 0x40), instr(0xff, 0x40), instr(0xf0, 0x40, number(api.OperandSigned, 0, 0, 4)), instr(0xff, 0x41))
	for word, want := range map[uint64]api.Errno{0x40: api.ErrTwice, 0x41: api.ErrTwice, 0x50: api.ErrForm, 0x00: api.ErrForm} {
		decodesNot(t, m, word, want)
	}
	decodes(t, m, 0x42, api.MachOp{Instr: 2, Args: args(2)})
	// A register that the bank does not have is no second op.
	m = made(1, instr(0xf0, 0x40, register(bank3, 0, 2)), instr(0xf0, 0x40, register(bank5, 0, 3)))
	decodesNot(t, m, 0x42, api.ErrTwice)
	decodes(t, m, 0x43, api.MachOp{Instr: 1, Args: args(35)})
	decodesNot(t, m, 0x45, api.ErrForm)
}

func TestP12_2Range(t *testing.T) {
	for size := 1; size <= 4; size++ {
		m := made(size, instr(0, 0), instr(0, 0))
		for _, word := range []uint64{limit(m), limit(m) + 1, 2*limit(m) - 1, 2 * limit(m), 1 << 32, 1 << 33, 1 << 63, math.MaxUint64} {
			decodesNot(t, m, word, api.ErrRange)
		}
		decodesNot(t, m, limit(m)-1, api.ErrForm)
		decodesNot(t, m, 0, api.ErrTwice)
		all := made(size, instr(0, 0, number(api.OperandUnsigned, 0, 0, 8*size)))
		decodes(t, all, limit(m)-1, api.MachOp{Args: args(int(limit(m) - 1))})
		decodesNot(t, all, limit(m), api.ErrRange)
	}
}
