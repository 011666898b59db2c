package machine

import (
	"slices"

	"retarget/api"
	"retarget/bits"
)

// CheckOp returns why op does not fit m.
func CheckOp(m api.Machine, op api.MachOp) api.Errno {
	if e := Check(m); e != api.OK {
		return e
	}
	if !isIndex(op.Instr, m.Instrs) {
		return api.ErrNone
	}
	operands := m.Instrs[op.Instr].Operands
	if len(op.Args) != len(operands) {
		return api.ErrArg
	}
	for i, o := range operands {
		if e := checkArg(m, o, op.Args, i); e != api.OK {
			return e
		}
	}
	return api.OK
}

// checkArg returns why the argument with the index i does not fit its operand.
func checkArg(m api.Machine, o api.MachOperand, args []int, i int) api.Errno {
	switch {
	case o.Kind != api.OperandReg:
		if !isNumber(o, args[i]) {
			return api.ErrRange
		}
	case !slices.Contains(m.Banks[o.Bank].Regs, args[i]):
		return api.ErrName
	case o.Tied != -1 && args[i] != args[o.Tied]:
		return api.ErrDiff
	}
	return api.OK
}

// isNumber reports whether n is a number that the field of o stands for.
func isNumber(o api.MachOperand, n int) bool {
	x := n >> o.Scale
	if x<<o.Scale != n {
		return false
	}
	if o.Kind == api.OperandUnsigned {
		return x >= 0 && bits.Ok(fieldWidth(o), uint64(x))
	}
	_, e := bits.Of(fieldWidth(o), int64(x))
	return e == api.OK
}

// Vars returns the bindings of the operands that are numbers, and of pc.
func Vars(m api.Machine, op api.MachOp, pc uint64) ([]api.Binding, api.Errno) {
	if e := CheckOp(m, op); e != api.OK {
		return nil, e
	}
	if !bits.Ok(m.Address, pc) {
		return nil, api.ErrRange
	}
	var vars []api.Binding
	for i, o := range m.Instrs[op.Instr].Operands {
		if o.Kind != api.OperandReg {
			vars = append(vars, api.Binding{Name: o.Name, Width: m.Address, Bits: number(m, o, op.Args[i], pc)})
		}
	}
	return append(vars, api.Binding{Name: "pc", Width: m.Address, Bits: pc}), api.OK
}

// number returns the number that the argument n of an op at the address pc stands for.
func number(m api.Machine, o api.MachOperand, n int, pc uint64) uint64 {
	x := uint64(n)
	if o.Kind == api.OperandJump {
		x = pc + uint64(m.Word)*(x+1)
	}
	return x & bits.Mask(m.Address)
}
