package encode

import (
	"slices"

	"retarget/api"
	"retarget/format"
)

// wordOf returns the word of an op that fits a valid machine; package format takes the fields of such an op without an error.
func wordOf(m api.Machine, op api.MachOp) uint64 {
	instr := m.Instrs[op.Instr]
	word := instr.Match
	put := func(o api.MachOperand, field uint64) { word, _ = format.Put(8*m.Word, word, o.Pieces, field) }
	for i, o := range instr.Operands {
		switch {
		case o.Kind != api.OperandReg:
			field, _ := format.Field(o.Kind, fieldWidth(o), o.Scale, op.Args[i])
			put(o, field)
		case o.Tied == -1:
			put(o, uint64(slices.Index(m.Banks[o.Bank].Regs, op.Args[i])))
		}
	}
	return word
}

// opOf returns the op of an instruction for which the word is legal.
func opOf(m api.Machine, instr int, word uint64) api.MachOp {
	op := api.MachOp{Instr: instr}
	for _, o := range m.Instrs[instr].Operands {
		field, _ := format.Get(8*m.Word, word, o.Pieces)
		var arg int
		switch {
		case o.Kind != api.OperandReg:
			arg, _ = format.Number(o.Kind, fieldWidth(o), o.Scale, field)
		case o.Tied == -1:
			arg = m.Banks[o.Bank].Regs[field]
		default:
			arg = op.Args[o.Tied]
		}
		op.Args = append(op.Args, arg)
	}
	return op
}

// fieldWidth returns the number of bits of the field of o.
func fieldWidth(o api.MachOperand) int {
	width := 0
	for _, p := range o.Pieces {
		width += p.Len
	}
	return width
}

// withoutEffects returns a valid machine with the same ops and words. The machine is checked again for each of many ops or words, and terms of effects can make that fifty times as long.
func withoutEffects(m api.Machine) api.Machine {
	m.Instrs = slices.Clone(m.Instrs)
	for i := range m.Instrs {
		// Slots go as well: only an instruction that jumps may have any.
		m.Instrs[i].Effects, m.Instrs[i].Slots = nil, 0
	}
	return m
}
