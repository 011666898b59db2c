package ambiguous_test

import (
	"math"
	"math/rand/v2"
	"slices"
	"strconv"
	"testing"

	"retarget/ambiguous"
	"retarget/api"
	"retarget/machine"
)

// must returns a value that comes without an error.
func must[T any](x T, e api.Errno) T {
	if e != api.OK {
		panic(e)
	}
	return x
}

// noIndices are numbers that are no index of any list.
var noIndices = []int{-1, -2, math.MinInt, math.MaxInt, math.MinInt32, math.MaxInt32, 1 << 32, -1 << 32}

// pieces returns the pieces At, Len, At, Len and so on.
func pieces(places ...int) []api.MachPiece {
	var l []api.MachPiece
	for i := 0; i < len(places); i += 2 {
		l = append(l, api.MachPiece{At: places[i], Len: places[i+1]})
	}
	return l
}

// register returns an operand that is a register of a bank.
func register(bank int, places ...int) api.MachOperand {
	return api.MachOperand{Kind: api.OperandReg, Bank: bank, Pieces: pieces(places...), Tied: -1}
}

// tied returns an operand that is the same register as another one.
func tied(bank, to int) api.MachOperand {
	return api.MachOperand{Kind: api.OperandReg, Bank: bank, Tied: to}
}

// number returns an operand that is a number.
func number(kind uint8, scale int, places ...int) api.MachOperand {
	return api.MachOperand{Kind: kind, Scale: scale, Pieces: pieces(places...), Tied: -1}
}

// instr returns an instruction without effects; operands are named a, b, c and so on.
func instr(mask, match uint64, operands ...api.MachOperand) api.MachInstr {
	for i := range operands {
		operands[i].Name = string(rune('a' + i))
	}
	return api.MachInstr{Mask: mask, Match: match, Operands: operands, Busy: 1, Latency: 1}
}

// made returns a machine with words of this many bytes, addresses of 32 bits, and banks of 1, 2, 3, 5, 8 and 64 registers; its instructions are named i0, i1 and so on.
func made(word int, instrs ...api.MachInstr) api.Machine {
	m := api.Machine{Name: "made", Word: word, Address: 32, Units: []api.MachUnit{{Name: "u", Count: 1}}}
	var all []int
	for i := range 64 {
		m.Regs = append(m.Regs, api.MachReg{Name: "r" + strconv.Itoa(i), Width: 8, Of: -1})
		all = append(all, i)
	}
	for _, n := range bankSizes {
		m.Banks = append(m.Banks, api.MachBank{Name: "b" + strconv.Itoa(n), Regs: slices.Clone(all[64-n:])})
	}
	for i, x := range instrs {
		x.Name = "i" + strconv.Itoa(i)
		m.Instrs = append(m.Instrs, x)
	}
	return m
}

// bankSizes are the numbers of registers of the banks of a machine that is made.
var bankSizes = []int{1, 2, 3, 5, 8, 64}

// The banks of a machine that is made.
const (
	bank1 = iota
	bank2
	bank3
	bank5
	bank8
	bank64
)

// limit returns 2^(8 Word).
func limit(m api.Machine) uint64 { return []uint64{0, 0x100, 0x10000, 0x1000000, 0x100000000}[m.Word] }

// isLegal is the chapter's definition, bit by bit.
func isLegal(m api.Machine, i api.MachInstr, word uint64) bool {
	bit := func(x uint64, at int) uint64 { return x / (1 << at) % 2 }
	inField := map[int]bool{}
	for _, o := range i.Operands {
		value, place := 0, 0
		for _, p := range o.Pieces {
			for at := p.At; at < p.At+p.Len; at++ {
				inField[at] = true
				if place < 32 && bit(word, at) == 1 {
					value += 1 << place
				}
				place++
			}
		}
		if o.Kind == api.OperandReg && o.Tied == -1 && value >= len(m.Banks[o.Bank].Regs) {
			return false
		}
	}
	for at := range 8 * m.Word {
		if bit(i.Mask, at) == 1 {
			if bit(word, at) != bit(i.Match, at) {
				return false
			}
		} else if !inField[at] && bit(word, at) == 1 {
			return false
		}
	}
	return true
}

// ownersOf returns the instructions for which a word is legal.
func ownersOf(m api.Machine, word uint64) []int {
	var l []int
	for i, x := range m.Instrs {
		if isLegal(m, x, word) {
			l = append(l, i)
		}
	}
	return l
}

// table returns the owners of all words of a machine.
func table(m api.Machine) [][]int {
	var l [][]int
	for word := range limit(m) {
		l = append(l, ownersOf(m, word))
	}
	return l
}

// leastOf returns the first word of a table that both instructions own.
func leastOf(owners [][]int, a, b int) (uint64, bool) {
	for word, l := range owners {
		if slices.Contains(l, a) && slices.Contains(l, b) {
			return uint64(word), true
		}
	}
	return 0, false
}

// A maker makes machines by chance, always the same ones.
type maker struct{ *rand.Rand }

func newMaker(seed uint64) maker { return maker{rand.New(rand.NewPCG(seed, 11))} }

// machine returns a valid machine with words of this many bytes and up to so many instructions.
func (r maker) machine(word, most int) api.Machine {
	var l []api.MachInstr
	for range r.IntN(most + 1) {
		l = append(l, r.instr(word))
	}
	m := made(word, l...)
	if e := machine.Check(m); e != api.OK {
		panic(e)
	}
	return m
}

// instr returns an instruction whose fields, mask and bits that must be 0 are mixed by chance.
func (r maker) instr(word int) api.MachInstr {
	free := r.Perm(8 * word)
	if r.IntN(3) > 0 {
		slices.Sort(free)
	}
	var operands []api.MachOperand
	for range r.IntN(5) {
		o, used := r.operand(free)
		if to := r.IntN(4); r.IntN(5) == 0 && to < len(operands) && operands[to].Kind == api.OperandReg && operands[to].Tied == -1 {
			o, used = tied(operands[to].Bank, to), 0
		}
		if o.Kind != 0 {
			operands, free = append(operands, o), free[used:]
		}
	}
	i := instr(0, 0, operands...)
	for _, at := range free {
		switch r.IntN(5) {
		case 0, 1:
			i.Mask |= 1 << at
		case 2:
			i.Mask |= 1 << at
			i.Match |= 1 << at
		}
	}
	return i
}

// operand returns an operand in the first of the free bits, or none, and how many of them it has.
func (r maker) operand(free []int) (api.MachOperand, int) {
	many := min(len(free), 1+r.IntN(6))
	l := together(free[:many])
	for len(l) > api.MaxPieces {
		many--
		l = together(free[:many])
	}
	if many == 0 {
		return api.MachOperand{}, 0
	}
	if r.IntN(3) == 0 {
		return api.MachOperand{Kind: uint8(2 + r.IntN(3)), Scale: r.IntN(4), Pieces: l, Tied: -1}, many
	}
	fitting := slices.DeleteFunc([]int{bank1, bank2, bank3, bank5, bank8, bank64}, func(bank int) bool { return bankSizes[bank] > 1<<many })
	return api.MachOperand{Kind: api.OperandReg, Bank: fitting[r.IntN(len(fitting))], Pieces: l, Tied: -1}, many
}

// together returns the pieces that have these bits, in their order.
func together(bits []int) []api.MachPiece {
	var l []api.MachPiece
	for _, at := range bits {
		if n := len(l) - 1; n >= 0 && l[n].At+l[n].Len == at {
			l[n].Len++
		} else {
			l = append(l, api.MachPiece{At: at, Len: 1})
		}
	}
	return l
}

// word returns a word of m, mostly one that is legal for an instruction, or nearly so.
func (r maker) word(m api.Machine) uint64 {
	x := r.Uint64N(limit(m))
	if len(m.Instrs) == 0 || r.IntN(5) == 0 {
		return x
	}
	i := m.Instrs[r.IntN(len(m.Instrs))]
	word := i.Match
	for _, o := range i.Operands {
		for _, p := range o.Pieces {
			if r.IntN(3) > 0 {
				word |= x & ((1<<p.Len - 1) << p.At)
			}
		}
	}
	if r.IntN(4) == 0 {
		word ^= 1 << r.IntN(8*m.Word)
	}
	return word
}

// refusesAll fails unless all functions return the error for a machine, whatever the other arguments are.
func refusesAll(t *testing.T, m api.Machine, want api.Errno) {
	t.Helper()
	for _, i := range append([]int{0, 1, len(m.Instrs)}, noIndices...) {
		for _, word := range []uint64{0, 1, 1 << 32, 1<<32 + 1, math.MaxUint64} {
			if is, e := ambiguous.Legal(m, i, word); is || e != want {
				t.Errorf("legal %d %x: %v %v, not %v", i, word, is, e, want)
			}
			if l, e := ambiguous.Owners(m, word); len(l) > 0 || e != want {
				t.Errorf("owners %x: %v %v, not %v", word, l, e, want)
			}
			if l, e := ambiguous.Holes(m, word, i); len(l) > 0 || e != want {
				t.Errorf("holes %x %d: %v %v, not %v", word, i, l, e, want)
			}
		}
		if word, is, e := ambiguous.Common(m, i, -i); word != 0 || is || e != want {
			t.Errorf("common %d: %x %v %v, not %v", i, word, is, e, want)
		}
		if n, e := ambiguous.Count(m, i); n != 0 || e != want {
			t.Errorf("count %d: %d %v, not %v", i, n, e, want)
		}
	}
	if l, e := ambiguous.Clashes(m); len(l) > 0 || e != want {
		t.Errorf("clashes: %v %v, not %v", l, e, want)
	}
}
