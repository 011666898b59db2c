package machine_test

import (
	"regexp"
	"strings"

	"retarget/api"
	"retarget/term"
)

// This file says again what a valid machine and an op that fits are, condition by condition, and with sets of bits in place of numbers.

var aName = regexp.MustCompile(`^[A-Za-z][A-Za-z0-9_]{0,23}$`)

// reference returns the error that Check should return.
func reference(m api.Machine) api.Errno {
	if !withinLimits(m) {
		return api.ErrMany
	}
	if !isValid(m) {
		return api.ErrBad
	}
	return api.OK
}

func withinLimits(m api.Machine) bool {
	if len(m.Regs) > 64 || len(m.Banks) > 16 || len(m.Units) > 8 || len(m.Instrs) > 64 {
		return false
	}
	for _, b := range m.Banks {
		if len(b.Regs) > 64 {
			return false
		}
	}
	for _, i := range m.Instrs {
		if len(i.Operands) > 4 || len(i.Effects) > 4 {
			return false
		}
		for _, o := range i.Operands {
			if len(o.Pieces) > 4 {
				return false
			}
		}
	}
	return true
}

func isValid(m api.Machine) bool {
	if !aName.MatchString(m.Name) || m.Word < 1 || m.Word > 4 || m.Address != 16 && m.Address != 32 || len(m.Regs) == 0 || len(m.Units) == 0 {
		return false
	}
	var regs, banks, units, instrs []string
	for _, r := range m.Regs {
		regs = append(regs, r.Name)
		if r.Width < 1 || r.Width > 64 || !rootOrPart(m, r) {
			return false
		}
	}
	for _, b := range m.Banks {
		banks = append(banks, b.Name)
		if !validBank(m, b.Regs) {
			return false
		}
	}
	for _, u := range m.Units {
		units = append(units, u.Name)
		if u.Count < 1 || u.Count > 4 {
			return false
		}
	}
	for _, i := range m.Instrs {
		instrs = append(instrs, i.Name)
		if !validInstr(m, i) {
			return false
		}
	}
	return differentNames(regs) && differentNames(banks) && differentNames(units) && differentNames(instrs)
}

func differentNames(l []string) bool {
	for i, s := range l {
		if !aName.MatchString(s) {
			return false
		}
		for _, u := range l[:i] {
			if u == s {
				return false
			}
		}
	}
	return true
}

func rootOrPart(m api.Machine, r api.MachReg) bool {
	if r.Of == -1 {
		return r.Low == 0
	}
	if r.Of < 0 || r.Of >= len(m.Regs) || m.Regs[r.Of].Of != -1 || m.Regs[r.Of].Low != 0 {
		return false
	}
	root := m.Regs[r.Of].Width
	if r.Low < 0 || r.Low > 64 || r.Width >= root {
		return false
	}
	return r.Low+r.Width <= root
}

func validBank(m api.Machine, l []int) bool {
	met, widths := map[int]bool{}, map[int]bool{}
	for _, r := range l {
		if r < 0 || r >= len(m.Regs) {
			return false
		}
		met[r], widths[m.Regs[r].Width] = true, true
	}
	return len(met) == len(l) && len(widths) == 1
}

func validInstr(m api.Machine, i api.MachInstr) bool {
	taken := map[int]bool{}
	for b := range 64 {
		masked, matched := i.Mask>>b&1 == 1, i.Match>>b&1 == 1
		if masked && b >= 8*m.Word || matched && !masked {
			return false
		}
		taken[b] = masked
	}
	var names []string
	for k, o := range i.Operands {
		names = append(names, o.Name)
		if o.Name == "pc" || !validPieces(m, o.Pieces, taken) || !validOperand(m, i.Operands, k) {
			return false
		}
	}
	if !differentNames(names) {
		return false
	}
	jumps, traps := 0, 0
	for _, f := range i.Effects {
		if !validEffect(m, i, f) {
			return false
		}
		if f.Kind == api.EffectJump {
			jumps++
		}
		if f.Kind == api.EffectTrap {
			traps++
		}
	}
	if jumps > 1 || traps > 0 && len(i.Effects) > 1 || jumps == 0 && i.Slots != 0 {
		return false
	}
	return i.Unit >= 0 && i.Unit < len(m.Units) && i.Busy >= 1 && i.Busy <= 15 && i.Latency >= 1 && i.Latency <= 15 && i.Slots >= 0 && i.Slots <= 2
}

// validPieces takes the bits of the pieces.
func validPieces(m api.Machine, l []api.MachPiece, taken map[int]bool) bool {
	for _, p := range l {
		if p.Len < 1 || p.Len > 32 || p.At < 0 || p.At > 32 {
			return false
		}
		for b := p.At; b < p.At+p.Len; b++ {
			if b >= 8*m.Word || taken[b] {
				return false
			}
			taken[b] = true
		}
	}
	return true
}

// validOperand is about an operand whose pieces are valid.
func validOperand(m api.Machine, l []api.MachOperand, k int) bool {
	o, wide := l[k], 0
	for _, p := range o.Pieces {
		wide += p.Len
	}
	switch o.Kind {
	case 1:
		if o.Bank < 0 || o.Bank >= len(m.Banks) || o.Scale != 0 {
			return false
		}
		if o.Tied == -1 {
			return len(o.Pieces) > 0 && uint64(len(m.Banks[o.Bank].Regs)) <= uint64(1)<<wide
		}
		return len(o.Pieces) == 0 && o.Tied >= 0 && o.Tied < k && l[o.Tied].Kind == 1 && l[o.Tied].Bank == o.Bank && l[o.Tied].Tied == -1
	case 2, 3, 4:
		return o.Bank == 0 && o.Tied == -1 && o.Scale >= 0 && o.Scale <= 3 && len(o.Pieces) > 0 && wide+o.Scale <= m.Address
	}
	return false
}

func validEffect(m api.Machine, i api.MachInstr, f api.MachEffect) bool {
	zero := func(t api.Term) bool { return term.Same(t, api.Term{}) }
	if !fitting(m, i, f.Value) {
		return false
	}
	w := f.Value.Width
	switch f.Kind {
	case 1:
		if !zero(f.Addr) || !zero(f.Cond) {
			return false
		}
		if f.Operand == -1 {
			return f.Reg >= 0 && f.Reg < len(m.Regs) && w == m.Regs[f.Reg].Width
		}
		return f.Reg == 0 && f.Operand >= 0 && f.Operand < len(i.Operands) && i.Operands[f.Operand].Kind == 1 && w == variables(m, i)[i.Operands[f.Operand].Name]
	case 2:
		return f.Operand == 0 && f.Reg == 0 && zero(f.Cond) && fitting(m, i, f.Addr) && f.Addr.Width == m.Address && (w == 8 || w == 16 || w == 32 || w == 64)
	case 3:
		return f.Operand == 0 && f.Reg == 0 && zero(f.Addr) && w == m.Address && (zero(f.Cond) || fitting(m, i, f.Cond) && f.Cond.Width == 1)
	case 4:
		return f.Operand == 0 && f.Reg == 0 && zero(f.Addr) && zero(f.Cond)
	}
	return false
}

// variables returns the widths of the variables of an instruction with valid operands.
func variables(m api.Machine, i api.MachInstr) map[string]int {
	all := map[string]int{"pc": m.Address}
	for _, o := range i.Operands {
		all[o.Name] = m.Address
		if o.Kind == 1 {
			all[o.Name] = m.Regs[m.Banks[o.Bank].Regs[0]].Width
		}
	}
	return all
}

func fitting(m api.Machine, i api.MachInstr, t api.Term) bool {
	if term.Check(t) != api.OK {
		return false
	}
	vars, _ := term.Vars(t)
	for _, v := range vars {
		width, known := variables(m, i)[v.Name]
		for _, r := range m.Regs {
			if name, is := strings.CutPrefix(v.Name, "r."); is && r.Name == name {
				width, known = r.Width, true
			}
		}
		if !known || width != v.Width {
			return false
		}
	}
	return wideAddresses(m, t)
}

// wideAddresses reports whether each load in a term has an address of the machine.
func wideAddresses(m api.Machine, t api.Term) bool {
	if t.Kind == api.TermLoad && t.Sub[0].Width != m.Address {
		return false
	}
	for _, part := range t.Sub {
		if !wideAddresses(m, part) {
			return false
		}
	}
	return true
}

// referenceOp returns the error that CheckOp should return for a valid machine.
func referenceOp(m api.Machine, op api.MachOp) api.Errno {
	if op.Instr < 0 || op.Instr >= len(m.Instrs) {
		return api.ErrNone
	}
	operands := m.Instrs[op.Instr].Operands
	if len(operands) != len(op.Args) {
		return api.ErrArg
	}
	for k, o := range operands {
		x := op.Args[k]
		if o.Kind != api.OperandReg {
			if low, high := numbers(o); x < low || x > high || x%(1<<o.Scale) != 0 {
				return api.ErrRange
			}
			continue
		}
		in := false
		for _, r := range m.Banks[o.Bank].Regs {
			in = in || r == x
		}
		if !in {
			return api.ErrName
		}
		if o.Tied >= 0 && op.Args[o.Tied] != x {
			return api.ErrDiff
		}
	}
	return api.OK
}
