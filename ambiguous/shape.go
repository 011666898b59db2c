package ambiguous

import (
	"math/bits"

	"retarget/api"
	"retarget/format"
)

// A shape says which words are legal for an instruction: their bits outside the fields are those of match, and each field has one of its values.
type shape struct {
	size   int // bits of a word
	match  uint64
	free   uint64 // the bits of the fields
	fields []field
}

// A field is the place of an operand in a word; its values are the numbers below values.
type field struct {
	pieces []api.MachPiece
	values uint64
}

func shapes(m api.Machine) []shape {
	var all []shape
	for _, i := range m.Instrs {
		all = append(all, shapeOf(m, i))
	}
	return all
}

// shapeOf returns the shape of an instruction of a valid machine, whose layouts package format takes without an error.
func shapeOf(m api.Machine, i api.MachInstr) shape {
	s := shape{size: 8 * m.Word, match: i.Match}
	for _, o := range i.Operands {
		mask, _ := format.Mask(s.size, o.Pieces)
		s.free |= mask
		// A tied operand has no bits, and so one value.
		f := field{o.Pieces, 1 << bits.OnesCount64(mask)}
		if o.Kind == api.OperandReg && o.Tied == -1 {
			f.values = uint64(len(m.Banks[o.Bank].Regs))
		}
		s.fields = append(s.fields, f)
	}
	return s
}

// has reports whether a word of the machine is legal.
func (s shape) has(word uint64) bool {
	if word&^s.free != s.match {
		return false
	}
	for _, f := range s.fields {
		if x, _ := format.Get(s.size, word, f.pieces); x >= f.values {
			return false
		}
	}
	return true
}

// common returns the least word that is legal for both shapes, if there is one. Each such word has the bits of both matches, and it stays legal if all its other bits become 0, because no field becomes greater by that.
func common(a, b shape) (uint64, bool) {
	word := a.match | b.match
	if !a.has(word) || !b.has(word) {
		return 0, false
	}
	return word, true
}
