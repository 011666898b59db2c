package encode_test

import (
	"math"
	"math/big"
	"math/rand/v2"
	"slices"
	"strconv"
	"testing"

	"retarget/api"
	"retarget/encode"
	"retarget/machine"
)

// must returns a value that comes without an error.
func must[T any](x T, e api.Errno) T {
	if e != api.OK {
		panic(e)
	}
	return x
}

// extremes are numbers that are no index of any list, and mostly in no field.
var extremes = []int{-1, -2, 64, 65, math.MinInt, math.MaxInt, math.MinInt32, math.MaxInt32, 1 << 32, -1 << 32, math.MinInt + 8, math.MaxInt - 7}

// pieces returns the pieces At, Len, At, Len and so on.
func pieces(places ...int) []api.MachPiece {
	var l []api.MachPiece
	for i := 0; i < len(places); i += 2 {
		l = append(l, api.MachPiece{At: places[i], Len: places[i+1]})
	}
	return l
}

// register returns an operand that is a register of a bank.
func register(bank int, places ...int) api.MachOperand {
	return api.MachOperand{Kind: api.OperandReg, Bank: bank, Pieces: pieces(places...), Tied: -1}
}

// tied returns an operand that is the same register as another one.
func tied(bank, to int) api.MachOperand {
	return api.MachOperand{Kind: api.OperandReg, Bank: bank, Tied: to}
}

// number returns an operand that is a number.
func number(kind uint8, scale int, places ...int) api.MachOperand {
	return api.MachOperand{Kind: kind, Scale: scale, Pieces: pieces(places...), Tied: -1}
}

// instr returns an instruction without effects; operands are named a, b, c and so on.
func instr(mask, match uint64, operands ...api.MachOperand) api.MachInstr {
	for i := range operands {
		operands[i].Name = string(rune('a' + i))
	}
	return api.MachInstr{Mask: mask, Match: match, Operands: operands, Busy: 1, Latency: 1}
}

// made returns a machine with words of this many bytes, addresses of 32 bits, and the banks below; its instructions are named i0, i1 and so on.
func made(word int, instrs ...api.MachInstr) api.Machine {
	m := api.Machine{Name: "made", Word: word, Address: 32, Units: []api.MachUnit{{Name: "u", Count: 1}}}
	for i := range 64 {
		m.Regs = append(m.Regs, api.MachReg{Name: "r" + strconv.Itoa(i), Width: 8, Of: -1})
	}
	for bank, n := range bankSizes {
		b := api.MachBank{Name: "b" + strconv.Itoa(n)}
		for place := range n {
			b.Regs = append(b.Regs, regAt(bank, place))
		}
		m.Banks = append(m.Banks, b)
	}
	for i, x := range instrs {
		x.Name = "i" + strconv.Itoa(i)
		m.Instrs = append(m.Instrs, x)
	}
	return m
}

// regAt returns the register at a place of a bank of a machine that is made: in each bank another one, and none in its own place.
func regAt(bank, place int) int { return (11 + 3*bank + 5*place) % 64 }

// bankSizes are the numbers of registers of the banks of a machine that is made.
var bankSizes = []int{1, 2, 3, 5, 8, 64}

// The banks of a machine that is made.
const (
	bank1 = iota
	bank2
	bank3
	bank5
	bank8
	bank64
)

// limit returns 2^(8 Word).
func limit(m api.Machine) uint64 { return []uint64{0, 0x100, 0x10000, 0x1000000, 0x100000000}[m.Word] }

// isFree reports whether an operand has an argument of its own.
func isFree(o api.MachOperand) bool { return o.Kind != api.OperandReg || o.Tied == -1 }

// wordOf is the chapter's definition of the word of an op that fits m, bit by bit.
func wordOf(m api.Machine, op api.MachOp) uint64 {
	i := m.Instrs[op.Instr]
	word := new(big.Int).SetUint64(i.Match)
	for k, o := range i.Operands {
		if !isFree(o) {
			continue
		}
		field := big.NewInt(int64(op.Args[k]))
		if o.Kind == api.OperandReg {
			for place, reg := range m.Banks[o.Bank].Regs {
				if reg == op.Args[k] {
					field.SetInt64(int64(place))
				}
			}
		} else {
			field.Div(field, big.NewInt(1<<o.Scale))
		}
		place := 0
		for _, p := range o.Pieces {
			for at := p.At; at < p.At+p.Len; at++ {
				// The bits of a big number below 0 are those of its two's complement, which is its field.
				word.SetBit(word, at, field.Bit(place))
				place++
			}
		}
	}
	return word.Uint64()
}

// argsOf returns all arguments that fit an operand, which is not tied.
func argsOf(m api.Machine, o api.MachOperand) []int {
	if o.Kind == api.OperandReg {
		return m.Banks[o.Bank].Regs
	}
	least, most := bounds(o)
	var l []int
	for k := least; k <= most; k++ {
		l = append(l, k*(1<<o.Scale))
	}
	return l
}

// bounds returns the least and the greatest integer that the field of a number stands for, before it is scaled.
func bounds(o api.MachOperand) (least, most int) {
	size := 1
	for _, p := range o.Pieces {
		for range p.Len {
			size *= 2
		}
	}
	if o.Kind == api.OperandUnsigned {
		return 0, size - 1
	}
	return -size / 2, size/2 - 1
}

// opsOf returns all ops of an instruction.
func opsOf(m api.Machine, instr int) []api.MachOp {
	lists := [][]int{nil}
	for _, o := range m.Instrs[instr].Operands {
		var longer [][]int
		for _, args := range lists {
			if !isFree(o) {
				longer = append(longer, append(slices.Clone(args), args[o.Tied]))
				continue
			}
			for _, arg := range argsOf(m, o) {
				longer = append(longer, append(slices.Clone(args), arg))
			}
		}
		lists = longer
	}
	var ops []api.MachOp
	for _, args := range lists {
		ops = append(ops, api.MachOp{Instr: instr, Args: args})
	}
	return ops
}

// table returns the ops of a machine by their words.
func table(m api.Machine) map[uint64][]api.MachOp {
	words := map[uint64][]api.MachOp{}
	for i := range m.Instrs {
		for _, op := range opsOf(m, i) {
			word := wordOf(m, op)
			words[word] = append(words[word], op)
		}
	}
	return words
}

// readers returns the ops with a word: for each instruction the only one that can have it is made of the bits of the fields, and it has it if it is an op and its word is this one.
func readers(m api.Machine, word uint64) []api.MachOp {
	var ops []api.MachOp
	for i, x := range m.Instrs {
		op := api.MachOp{Instr: i}
		for _, o := range x.Operands {
			op.Args = append(op.Args, argIn(m, o, op.Args, word))
		}
		if !slices.Contains(op.Args, none) && wordOf(m, op) == word {
			ops = append(ops, op)
		}
	}
	return ops
}

// none is what argIn returns if a bank has no register at the place.
const none = math.MinInt

// argIn returns the argument whose field a word has.
func argIn(m api.Machine, o api.MachOperand, args []int, word uint64) int {
	if !isFree(o) {
		return args[o.Tied]
	}
	field, weight, last := 0, 1, 0
	for _, p := range o.Pieces {
		for at := p.At; at < p.At+p.Len; at++ {
			last = int(word >> at & 1)
			field += weight * last
			weight *= 2
		}
	}
	switch {
	case o.Kind == api.OperandReg && field >= len(m.Banks[o.Bank].Regs):
		return none
	case o.Kind == api.OperandReg:
		return m.Banks[o.Bank].Regs[field]
	case o.Kind != api.OperandUnsigned && last == 1:
		field -= weight
	}
	return field * (1 << o.Scale)
}

// sameOp reports whether two ops are equal.
func sameOp(a, b api.MachOp) bool { return a.Instr == b.Instr && slices.Equal(a.Args, b.Args) }

// noOp reports whether op is the zero value.
func noOp(op api.MachOp) bool { return op.Instr == 0 && len(op.Args) == 0 }

// encodes fails unless Encode has this word for an op, and the definition too.
func encodes(t *testing.T, m api.Machine, op api.MachOp, want uint64) {
	t.Helper()
	if word, e := encode.Encode(m, op); word != want || e != api.OK {
		t.Errorf("%s %v: %x %v, not %x", m.Name, op, word, e, want)
	}
	if word := wordOf(m, op); word != want {
		t.Errorf("the definition of %v: %x, not %x", op, word, want)
	}
}

// encodesNot fails unless Encode has this error for an op.
func encodesNot(t *testing.T, m api.Machine, op api.MachOp, want api.Errno) {
	t.Helper()
	if word, e := encode.Encode(m, op); word != 0 || e != want {
		t.Errorf("%s %v: %x %v, not %v", m.Name, op, word, e, want)
	}
}

// decodes fails unless Decode has this op for a word.
func decodes(t *testing.T, m api.Machine, word uint64, want api.MachOp) {
	t.Helper()
	if op, e := encode.Decode(m, word); !sameOp(op, want) || e != api.OK {
		t.Errorf("%s %x: %v %v, not %v", m.Name, word, op, e, want)
	}
}

// decodesNot fails unless Decode has this error for a word.
func decodesNot(t *testing.T, m api.Machine, word uint64, want api.Errno) {
	t.Helper()
	if op, e := encode.Decode(m, word); !noOp(op) || e != want {
		t.Errorf("%s %x: %v %v, not %v", m.Name, word, op, e, want)
	}
}

// A maker makes machines, ops and words by chance, always the same ones.
type maker struct{ *rand.Rand }

func newMaker(seed uint64) maker { return maker{rand.New(rand.NewPCG(seed, 12))} }

// machine returns a valid machine with words of this many bytes and up to so many instructions.
func (r maker) machine(word, most int) api.Machine {
	var l []api.MachInstr
	for range r.IntN(most + 1) {
		l = append(l, r.instr(word))
	}
	m := made(word, l...)
	if e := machine.Check(m); e != api.OK {
		panic(e)
	}
	return m
}

// instr returns an instruction whose fields, mask and bits that must be 0 are mixed by chance.
func (r maker) instr(word int) api.MachInstr {
	free := r.Perm(8 * word)
	if r.IntN(3) > 0 {
		slices.Sort(free)
	}
	var operands []api.MachOperand
	for range r.IntN(api.MaxOperands + 1) {
		to := r.IntN(len(operands) + 1)
		if to < len(operands) && r.IntN(3) > 0 && operands[to].Kind == api.OperandReg && operands[to].Tied == -1 {
			operands = append(operands, tied(operands[to].Bank, to))
		} else if len(free) > 0 {
			var o api.MachOperand
			o, free = r.operand(free)
			operands = append(operands, o)
		}
	}
	i := instr(0, 0, operands...)
	for _, at := range free {
		switch r.IntN(5) {
		case 0, 1:
			i.Mask |= 1 << at
		case 2, 3:
			i.Mask |= 1 << at
			i.Match |= 1 << at
		}
	}
	return i
}

// operand returns an operand in the first ones of the free bits, and those that are left.
func (r maker) operand(free []int) (api.MachOperand, []int) {
	many := min(len(free), 1+r.IntN(6))
	if r.IntN(4) == 0 {
		many = 1 + r.IntN(len(free))
	}
	for len(together(free[:many])) > api.MaxPieces {
		many--
	}
	l, rest := together(free[:many]), free[many:]
	if r.IntN(2) == 0 {
		return api.MachOperand{Kind: uint8(2 + r.IntN(3)), Scale: r.IntN(min(api.MaxScale, 32-many) + 1), Pieces: l, Tied: -1}, rest
	}
	fitting := slices.DeleteFunc([]int{bank1, bank2, bank3, bank5, bank8, bank64}, func(bank int) bool { return many < 6 && bankSizes[bank] > 1<<many })
	return api.MachOperand{Kind: api.OperandReg, Bank: fitting[r.IntN(len(fitting))], Pieces: l, Tied: -1}, rest
}

// together returns the pieces that have these bits, in their order.
func together(bits []int) []api.MachPiece {
	var l []api.MachPiece
	for _, at := range bits {
		if n := len(l) - 1; n >= 0 && l[n].At+l[n].Len == at {
			l[n].Len++
		} else {
			l = append(l, api.MachPiece{At: at, Len: 1})
		}
	}
	return l
}

// op returns an op of an instruction of m.
func (r maker) op(m api.Machine, instr int) api.MachOp {
	op := api.MachOp{Instr: instr}
	for _, o := range m.Instrs[instr].Operands {
		op.Args = append(op.Args, r.arg(m, o, op.Args))
	}
	return op
}

// arg returns an argument for an operand, often one at a bound.
func (r maker) arg(m api.Machine, o api.MachOperand, args []int) int {
	if !isFree(o) {
		return args[o.Tied]
	}
	if o.Kind == api.OperandReg {
		regs := m.Banks[o.Bank].Regs
		return regs[r.IntN(len(regs))]
	}
	least, most := bounds(o)
	k := least + r.IntN(most-least+1)
	switch r.IntN(4) {
	case 0:
		k = []int{least, most}[r.IntN(2)]
	case 1:
		k = max(least, min(most, r.IntN(5)-2))
	}
	return k * (1 << o.Scale)
}

// ops returns so many ops of m, which has instructions.
func (r maker) ops(m api.Machine, many int) []api.MachOp {
	var l []api.MachOp
	for range many {
		l = append(l, r.op(m, r.IntN(len(m.Instrs))))
	}
	return l
}

// word returns a word of m, mostly one that an op has, or nearly so.
func (r maker) word(m api.Machine) uint64 {
	if len(m.Instrs) == 0 || r.IntN(8) == 0 {
		return r.Uint64N(limit(m))
	}
	word := wordOf(m, r.op(m, r.IntN(len(m.Instrs))))
	if r.IntN(3) == 0 {
		word ^= 1 << r.IntN(8*m.Word)
	}
	return word
}

// refusesAll fails unless all functions return the error for a machine, whatever the other arguments are.
func refusesAll(t *testing.T, m api.Machine, want api.Errno) {
	t.Helper()
	for _, i := range append([]int{0, 1, len(m.Instrs)}, extremes...) {
		for _, args := range [][]int{nil, {1, 2, 3}, {i}, make([]int, 1<<16)} {
			encodesNot(t, m, api.MachOp{Instr: i, Args: args}, want)
			if b, e := encode.Image(m, slices.Repeat([]api.MachOp{{Instr: i, Args: args}}, 1+len(args))); len(b) > 0 || e != want {
				t.Errorf("image %d: %v %v, not %v", i, b, e, want)
			}
		}
	}
	for _, word := range []uint64{0, 1, 1 << 32, math.MaxUint64} {
		decodesNot(t, m, word, want)
	}
	for _, n := range []int{0, 1, 2, 3, 4, 5, 4096, 4097, 1 << 16, 1<<16 + 1} {
		if b, e := encode.Bytes(m, slices.Repeat([]uint64{1 << 40}, n)); len(b) > 0 || e != want {
			t.Errorf("bytes of %d words: %v %v, not %v", n, b, e, want)
		}
		if l, e := encode.Words(m, make([]byte, n)); len(l) > 0 || e != want {
			t.Errorf("words of %d bytes: %v %v, not %v", n, l, e, want)
		}
		if l, at, e := encode.Ops(m, make([]byte, n)); len(l) > 0 || at != 0 || e != want {
			t.Errorf("ops of %d bytes: %v %d %v, not %v", n, l, at, e, want)
		}
	}
}
