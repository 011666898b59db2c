package bits

import "retarget/api"

// Unary returns the value of TermNot or TermNeg.
func Unary(kind uint8, width int, a uint64) (uint64, api.Errno) {
	return operate(api.TermNot, api.TermNeg, kind, width, a, 0)
}

// Binary returns the value of a kind from TermAdd to TermSlt.
func Binary(kind uint8, width int, a, b uint64) (uint64, api.Errno) {
	return operate(api.TermAdd, api.TermSlt, kind, width, a, b)
}

// operate returns the value of a kind, which must be from least to most.
func operate(least, most, kind uint8, width int, a, b uint64) (uint64, api.Errno) {
	known := func() api.Errno {
		if kind < least || kind > most {
			return api.ErrArg
		}
		return api.OK
	}
	if e := check(width, known, a, b); e != api.OK {
		return 0, e
	}
	return operations()[kind](width, a, b) & Mask(width), api.OK
}

// An operation gets values of the width. Bits of its result above the width do not count.
type operation func(width int, a, b uint64) uint64

// operations returns the operations by their kinds.
func operations() [api.TermSlt + 1]operation {
	return [...]operation{
		api.TermNot: func(_ int, a, _ uint64) uint64 { return ^a },
		api.TermNeg: func(_ int, a, _ uint64) uint64 { return -a },
		api.TermAdd: func(_ int, a, b uint64) uint64 { return a + b },
		api.TermSub: func(_ int, a, b uint64) uint64 { return a - b },
		api.TermMul: func(_ int, a, b uint64) uint64 { return a * b },
		api.TermAnd: func(_ int, a, b uint64) uint64 { return a & b },
		api.TermOr:  func(_ int, a, b uint64) uint64 { return a | b },
		api.TermXor: func(_ int, a, b uint64) uint64 { return a ^ b },
		// Shifts of Go by too much give what the chapter asks for: all bits leave.
		api.TermShl:  func(_ int, a, b uint64) uint64 { return a << b },
		api.TermShr:  func(_ int, a, b uint64) uint64 { return a >> b },
		api.TermSar:  func(width int, a, b uint64) uint64 { return uint64(signed(width, a) >> b) },
		api.TermUdiv: func(_ int, a, b uint64) uint64 { return quotient(a, b) },
		api.TermUrem: func(_ int, a, b uint64) uint64 { return remainder(a, b) },
		api.TermEq:   func(_ int, a, b uint64) uint64 { return bit(a == b) },
		api.TermUlt:  func(_ int, a, b uint64) uint64 { return bit(a < b) },
		api.TermSlt:  func(width int, a, b uint64) uint64 { return bit(signed(width, a) < signed(width, b)) },
	}
}

func quotient(a, b uint64) uint64 {
	if b == 0 {
		return ^uint64(0)
	}
	return a / b
}

func remainder(a, b uint64) uint64 {
	if b == 0 {
		return a
	}
	return a % b
}

func bit(is bool) uint64 {
	if is {
		return 1
	}
	return 0
}
