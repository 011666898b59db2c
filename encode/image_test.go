package encode_test

import (
	"bytes"
	"math"
	"slices"
	"testing"

	"retarget/api"
	"retarget/encode"
	"retarget/term"
)

// imageIs fails unless Image has these bytes for ops, and Ops these ops for the bytes.
func imageIs(t *testing.T, m api.Machine, ops []api.MachOp, want []byte) {
	t.Helper()
	if b, e := encode.Image(m, ops); !bytes.Equal(b, want) || e != api.OK {
		t.Errorf("%s %v: %x %v, not %x", m.Name, ops, b, e, want)
	}
	if l, at, e := encode.Ops(m, want); !slices.EqualFunc(l, ops, sameOp) || at != 0 || e != api.OK {
		t.Errorf("%s %x: %v %d %v, not %v", m.Name, want, l, at, e, ops)
	}
}

// imageIsNot fails unless Image has this error for ops.
func imageIsNot(t *testing.T, m api.Machine, ops []api.MachOp, want api.Errno) {
	t.Helper()
	if b, e := encode.Image(m, ops); len(b) > 0 || e != want {
		t.Errorf("%s %d ops: %x %v, not %v", m.Name, len(ops), b, e, want)
	}
}

// noOps fails unless Ops has this error in the word with this index.
func noOps(t *testing.T, m api.Machine, b []byte, at int, want api.Errno) {
	t.Helper()
	if l, place, e := encode.Ops(m, b); len(l) > 0 || place != at || e != want {
		t.Errorf("%s %d bytes: %v %d %v, not %d %v", m.Name, len(b), l, place, e, at, want)
	}
}

func TestP12_4(t *testing.T) {
	m := api.Given(0)
	imageIs(t, m, []api.MachOp{named(m, "add", 1, 2, 3), named(m, "jump", -1), named(m, "nop")}, []byte{0, 192, 72, 0, 255, 255, 255, 131, 0, 0, 0, 152})
	m = api.Given(1)
	imageIs(t, m, []api.MachOp{named(m, "ret"), named(m, "add", 0, 0, 1), named(m, "mov", 1, 2)}, []byte{0, 152, 16, 12, 160, 0})
	m = api.Given(2)
	imageIs(t, m, []api.MachOp{named(m, "mac", 1, 1, 2, 3), named(m, "li", 0, -1)}, []byte{0, 128, 41, 12, 255, 255, 31, 14})
	for k := range 3 {
		imageIs(t, api.Given(k), nil, nil)
		imageIs(t, api.Given(k), []api.MachOp{}, []byte{})
	}
}

// TestP12_4Given has ops of all instructions of the given machines, with jumps, delay slots and traps.
func TestP12_4Given(t *testing.T) {
	r := newMaker(7)
	for k := range 3 {
		m := api.Given(k)
		for range 4 {
			var ops []api.MachOp
			var words []uint64
			for _, i := range r.Perm(len(m.Instrs)) {
				op := r.op(m, i)
				ops, words = append(ops, op), append(words, wordOf(m, op))
			}
			imageIs(t, m, ops, bytesOf(m, words))
		}
	}
}

// TestP12_4Chance has images of machines by chance: Image is Bytes of the words that Encode has, and Ops has what Decode has for each of them.
func TestP12_4Chance(t *testing.T) {
	r := newMaker(8)
	met := map[api.Errno]int{}
	for i := range 800 {
		m := r.machine(1+i%4, 5)
		var words []uint64
		if len(m.Instrs) > 0 {
			ops := r.ops(m, r.IntN(6))
			for _, op := range ops {
				words = append(words, wordOf(m, op))
			}
			if b, e := encode.Image(m, ops); !bytes.Equal(b, bytesOf(m, words)) || e != api.OK {
				t.Fatalf("%v %v: %x %v, not %x", m.Instrs, ops, b, e, words)
			}
		}
		if r.IntN(3) == 0 {
			words = append(words, r.word(m))
		}
		want, at, e := opsWith(m, words)
		met[e]++
		if l, place, f := encode.Ops(m, bytesOf(m, words)); !slices.EqualFunc(l, want, sameOp) || place != at || f != e {
			t.Fatalf("%v %x: %v %d %v, not %v %d %v", m.Instrs, words, l, place, f, want, at, e)
		}
	}
	if min(met[api.OK], met[api.ErrForm], met[api.ErrTwice]) < 50 {
		t.Error(met)
	}
}

// opsWith returns the ops with these words, or the first error.
func opsWith(m api.Machine, words []uint64) ([]api.MachOp, int, api.Errno) {
	var ops []api.MachOp
	for at, word := range words {
		l := readers(m, word)
		switch len(l) {
		case 0:
			return nil, at, api.ErrForm
		case 1:
			ops = append(ops, l[0])
		default:
			return nil, at, api.ErrTwice
		}
	}
	return ops, 0, api.OK
}

// TestP12_4Many has lists at their limit and above it; lists that are too long have this error before that of an op.
func TestP12_4Many(t *testing.T) {
	for size := 1; size <= 4; size++ {
		m := made(size, instr(0xfe, 0x10, number(api.OperandUnsigned, 0, 0, 1)), instr(0xff, 0x20))
		ops := slices.Repeat([]api.MachOp{{Args: args(1)}}, api.MaxWords)
		ops[0], ops[api.MaxWords-1] = api.MachOp{Args: args(0)}, api.MachOp{Instr: 1}
		words := slices.Repeat([]uint64{0x11}, api.MaxWords)
		words[0], words[api.MaxWords-1] = 0x10, 0x20
		imageIs(t, m, ops, bytesOf(m, words))
		imageIsNot(t, m, append(ops, ops[0]), api.ErrMany)
		imageIsNot(t, m, append(ops, api.MachOp{Instr: 9}), api.ErrMany)
		imageIsNot(t, m, make([]api.MachOp, 1<<20), api.ErrMany)
		ops[api.MaxWords-1].Args = args(0)
		imageIsNot(t, m, ops, api.ErrArg)
		ops[0].Instr = 2
		imageIsNot(t, m, ops, api.ErrNone)
		imageIsNot(t, m, append(ops, api.MachOp{}), api.ErrMany)
		words[api.MaxWords-1] = 0x30
		noOps(t, m, bytesOf(m, words), api.MaxWords-1, api.ErrForm)
		noOps(t, m, bytesOf(m, append(words, 0x10)), 0, api.ErrMany)
	}
}

// TestP12_4First has more than one error: the first one counts.
func TestP12_4First(t *testing.T) {
	m := made(2, instr(0xff, 1, register(bank3, 8, 2), tied(bank3, 0), number(api.OperandSigned, 0, 10, 3)), instr(0xff, 2), instr(0xff, 2))
	good := api.MachOp{Args: args(22, 22, 3)}
	bad := map[api.Errno]api.MachOp{
		api.ErrNone: {Instr: 3}, api.ErrArg: {Args: args(22, 22)}, api.ErrName: {Args: args(1, 1, 3)}, api.ErrDiff: {Args: args(22, 17, 3)}, api.ErrRange: {Args: args(22, 22, 4)},
	}
	for e, a := range bad {
		imageIsNot(t, m, []api.MachOp{a}, e)
		for _, b := range bad {
			imageIsNot(t, m, []api.MachOp{a, b}, e)
			imageIsNot(t, m, []api.MachOp{good, a, good, b, good}, e)
		}
	}
	// 0x0d01 is the word of good, 2 that of two instructions, 0 and 0x0301 those of none.
	imageIs(t, m, []api.MachOp{good, good}, []byte{1, 13, 1, 13})
	noOps(t, m, []byte{2, 0}, 0, api.ErrTwice)
	noOps(t, m, []byte{0, 0}, 0, api.ErrForm)
	noOps(t, m, []byte{1, 13, 2, 0, 0, 0}, 1, api.ErrTwice)
	noOps(t, m, []byte{1, 13, 1, 13, 1, 3, 2, 0}, 2, api.ErrForm)
	noOps(t, m, []byte{1, 13, 1, 13, 1, 13, 2, 0, 1, 13}, 3, api.ErrTwice)
	// The number of bytes comes before their words.
	noOps(t, m, []byte{1, 13, 2, 0, 0}, 0, api.ErrArg)
	noOps(t, m, []byte{0}, 0, api.ErrArg)
}

// TestEffects has machines that differ in what is not about words.
func TestEffects(t *testing.T) {
	m := made(2, instr(0xff, 1, register(bank3, 8, 2), number(api.OperandJump, 0, 10, 3)), instr(0xff, 2))
	want := results(m)
	m.Name, m.Address, m.Units[0].Count = "other", 16, 4
	m.Instrs[0].Slots, m.Instrs[0].Busy, m.Instrs[0].Latency = 2, 15, 15
	m.Instrs[0].Effects = []api.MachEffect{{Kind: api.EffectJump, Value: must(term.Parse("(add b:16 pc:16)"))}, {Kind: api.EffectReg, Value: must(term.Parse("a:8"))}}
	m.Instrs[1].Effects = []api.MachEffect{{Kind: api.EffectTrap, Value: must(term.Parse("r.r0:8"))}}
	sameResults(t, results(m), want)
	imageIs(t, m, []api.MachOp{{Args: args(27, -1)}, {Instr: 1}}, []byte{1, 30, 2, 0})
	// The effects are part of what is valid.
	m.Instrs[1].Slots = 1
	refusesAll(t, m, api.ErrBad)
	m.Instrs[1].Slots = math.MinInt
	refusesAll(t, m, api.ErrBad)
	m.Instrs[1].Slots, m.Instrs[1].Effects[0].Value.Width = 0, 9
	refusesAll(t, m, api.ErrBad)
	m.Instrs[1].Effects = make([]api.MachEffect, api.MaxEffects+1)
	refusesAll(t, m, api.ErrMany)
}
