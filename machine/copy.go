package machine

import (
	"slices"

	"retarget/api"
	"retarget/term"
)

// Same reports whether two machines are identical.
func Same(a, b api.Machine) bool {
	return a.Name == b.Name && a.Word == b.Word && a.Address == b.Address &&
		slices.Equal(a.Regs, b.Regs) && slices.EqualFunc(a.Banks, b.Banks, sameBank) &&
		slices.Equal(a.Units, b.Units) && slices.EqualFunc(a.Instrs, b.Instrs, sameInstr)
}

func sameBank(a, b api.MachBank) bool { return a.Name == b.Name && slices.Equal(a.Regs, b.Regs) }

func sameInstr(a, b api.MachInstr) bool {
	return a.Name == b.Name && a.Mask == b.Mask && a.Match == b.Match &&
		slices.EqualFunc(a.Operands, b.Operands, sameOperand) && slices.EqualFunc(a.Effects, b.Effects, sameEffect) &&
		a.Unit == b.Unit && a.Busy == b.Busy && a.Latency == b.Latency && a.Slots == b.Slots
}

func sameOperand(a, b api.MachOperand) bool {
	return a.Name == b.Name && a.Kind == b.Kind && a.Bank == b.Bank && a.Scale == b.Scale && a.Tied == b.Tied && slices.Equal(a.Pieces, b.Pieces)
}

func sameEffect(a, b api.MachEffect) bool {
	return a.Kind == b.Kind && a.Operand == b.Operand && a.Reg == b.Reg &&
		term.Same(a.Addr, b.Addr) && term.Same(a.Value, b.Value) && term.Same(a.Cond, b.Cond)
}

// Twin returns a copy of m.
func Twin(m api.Machine) api.Machine {
	m.Regs, m.Units = slices.Clone(m.Regs), slices.Clone(m.Units)
	m.Banks = copied(m.Banks, func(b api.MachBank) api.MachBank {
		b.Regs = slices.Clone(b.Regs)
		return b
	})
	m.Instrs = copied(m.Instrs, func(i api.MachInstr) api.MachInstr {
		i.Operands, i.Effects = copied(i.Operands, twinOperand), copied(i.Effects, twinEffect)
		return i
	})
	return m
}

// copied returns a list of the twins of the elements of l.
func copied[T any](l []T, twin func(T) T) []T {
	l = slices.Clone(l)
	for i, x := range l {
		l[i] = twin(x)
	}
	return l
}

func twinOperand(o api.MachOperand) api.MachOperand {
	o.Pieces = slices.Clone(o.Pieces)
	return o
}

func twinEffect(f api.MachEffect) api.MachEffect {
	f.Addr, f.Value, f.Cond = term.Twin(f.Addr), term.Twin(f.Value), term.Twin(f.Cond)
	return f
}
