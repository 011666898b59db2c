package machine

import (
	"slices"

	"retarget/api"
	"retarget/bits"
	"retarget/term"
)

// checkInstr looks at the effects only if the operands are right, because their terms are about these.
func (c *checker) checkInstr(i api.MachInstr) {
	jumps, traps := count(i.Effects, api.EffectJump), count(i.Effects, api.EffectTrap)
	c.must(
		i.Mask <= bits.Mask(8*c.Word), i.Match&^i.Mask == 0,
		jumps <= 1, traps == 0 || len(i.Effects) == 1,
		isIndex(i.Unit, c.Units), isIn(i.Busy, 1, api.MaxBusy), isIn(i.Latency, 1, api.MaxLatency),
		isIn(i.Slots, 0, api.MaxSlots), i.Slots == 0 || jumps > 0,
	)
	if c.checkOperands(i); c.bad {
		return
	}
	for _, o := range i.Operands {
		c.widths[o.Name] = c.widthOf(o)
	}
	for _, f := range i.Effects {
		c.checkEffect(f, i.Operands)
	}
	for _, o := range i.Operands {
		delete(c.widths, o.Name)
	}
}

// count returns how many of the effects are of the kind.
func count(effects []api.MachEffect, kind uint8) int {
	n := 0
	for _, f := range effects {
		if f.Kind == kind {
			n++
		}
	}
	return n
}

func (c *checker) checkOperands(i api.MachInstr) {
	c.must(areNamed(i.Operands, func(o api.MachOperand) string { return o.Name }))
	taken := i.Mask
	for at, o := range i.Operands {
		c.must(o.Name != "pc", c.isOperand(o, i.Operands[:at]))
		for _, p := range o.Pieces {
			if !c.isPiece(p) {
				c.must(false)
				return
			}
			field := bits.Mask(p.Len) << p.At
			c.must(taken&field == 0)
			taken |= field
		}
	}
}

// isPiece reports whether p lies within the word.
func (c *checker) isPiece(p api.MachPiece) bool {
	return isIn(p.Len, 1, 8*c.Word) && isIn(p.At, 0, 8*c.Word-p.Len)
}

// isOperand reports whether o, which stands behind the others, is valid, but for its name and the places of its pieces.
func (c *checker) isOperand(o api.MachOperand, others []api.MachOperand) bool {
	switch o.Kind {
	case api.OperandReg:
		if !isIndex(o.Bank, c.Banks) || o.Scale != 0 {
			return false
		}
		if o.Tied == -1 {
			last := len(c.Banks[o.Bank].Regs) - 1
			return len(o.Pieces) > 0 && bits.Ok(fieldWidth(o), uint64(last))
		}
		return len(o.Pieces) == 0 && isIndex(o.Tied, others) && isTarget(others[o.Tied], o.Bank)
	case api.OperandSigned, api.OperandUnsigned, api.OperandJump:
		return o.Bank == 0 && o.Tied == -1 && isIn(o.Scale, 0, api.MaxScale) && len(o.Pieces) > 0 && fieldWidth(o) <= c.Address-o.Scale
	}
	return false
}

// isTarget reports whether an operand with the bank may be tied to o.
func isTarget(o api.MachOperand, bank int) bool {
	return o.Kind == api.OperandReg && o.Bank == bank && o.Tied == -1
}

// fieldWidth returns the number of bits of the field of o.
func fieldWidth(o api.MachOperand) int {
	width := 0
	for _, p := range o.Pieces {
		width += p.Len
	}
	return width
}

// widthOf returns the width of the variable that is a valid operand.
func (c *checker) widthOf(o api.MachOperand) int {
	if o.Kind == api.OperandReg {
		return c.Regs[c.Banks[o.Bank].Regs[0]].Width
	}
	return c.Address
}

// checkEffect checks an effect of an instruction with these operands, which are valid.
func (c *checker) checkEffect(f api.MachEffect, operands []api.MachOperand) {
	switch f.Kind {
	case api.EffectReg:
		c.must(c.fits(f.Value), f.Value.Width == c.widthSet(f, operands))
	case api.EffectStore:
		c.must(c.fits(f.Addr), f.Addr.Width == c.Address, c.fits(f.Value), isStored(f.Value.Width))
	case api.EffectJump:
		c.must(c.fits(f.Value), f.Value.Width == c.Address, isZero(f.Cond) || c.fits(f.Cond) && f.Cond.Width == 1)
	case api.EffectTrap:
		c.must(c.fits(f.Value))
	default:
		c.must(false)
	}
	c.must(isTidy(f))
}

// widthSet returns the width of the register that an EffectReg sets, or 0, which no term has, if there is none.
func (c *checker) widthSet(f api.MachEffect, operands []api.MachOperand) int {
	switch {
	case f.Operand == -1 && isIndex(f.Reg, c.Regs):
		return c.Regs[f.Reg].Width
	case isIndex(f.Operand, operands) && operands[f.Operand].Kind == api.OperandReg:
		return c.widthOf(operands[f.Operand])
	}
	return 0
}

// isTidy reports whether the fields that the kind of f does not use are zero.
func isTidy(f api.MachEffect) bool {
	sets := f.Kind == api.EffectReg
	return (sets || f.Operand == 0) && (sets && f.Operand == -1 || f.Reg == 0) &&
		(f.Kind == api.EffectStore || isZero(f.Addr)) && (f.Kind == api.EffectJump || isZero(f.Cond))
}

// isStored reports whether this many bits can be stored.
func isStored(width int) bool { return width == 8 || width == 16 || width == 32 || width == 64 }

// isZero reports whether t is the zero term. It looks at the fields itself: with term.Same, Check would take up to half as long again, and nearly every call of this layer and of those above it begins with Check.
func isZero(t api.Term) bool {
	return t.Kind == 0 && t.Width == 0 && t.Bits == 0 && t.Name == "" && t.Low == 0 && len(t.Sub) == 0
}

// fits reports whether t fits the instruction.
func (c *checker) fits(t api.Term) bool { return term.Check(t) == api.OK && c.knows(t) }

// knows reports whether the variables of a valid term are those of the instruction, and its loads have addresses of the machine.
func (c *checker) knows(t api.Term) bool {
	switch t.Kind {
	case api.TermVar:
		// No variable of a valid term has the width 0, which is that of an unknown name.
		return c.widths[t.Name] == t.Width
	case api.TermLoad:
		if t.Sub[0].Width != c.Address {
			return false
		}
	}
	return !slices.ContainsFunc(t.Sub, func(part api.Term) bool { return !c.knows(part) })
}
