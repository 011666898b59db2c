package bits_test

import (
	"math"
	"math/big"

	"retarget/api"
	"retarget/bits"
)

// noWidths are numbers that are no widths.
var noWidths = []int{0, -1, -64, 65, 66, 128, math.MinInt, math.MaxInt, 1 << 32, 1<<32 + 8}

// samples returns values of the width: all of them if there are few, otherwise those at which something may go wrong.
func samples(width int) []uint64 {
	most := mask(width)
	if width <= 3 {
		var all []uint64
		for x := range most + 1 {
			all = append(all, x)
		}
		return all
	}
	sign := uint64(1) << (width - 1)
	w := uint64(width)
	some := []uint64{0, 1, 2, 3, w - 1, w, w + 1, 64, 65, 200, 0x5555555555555555, 0x123456789abcdef0, sign - 1, sign, sign + 1, most - 1, most}
	seen := map[uint64]bool{}
	var out []uint64
	for _, x := range some {
		if x &= most; !seen[x] {
			seen[x] = true
			out = append(out, x)
		}
	}
	return out
}

// mask is 2^width - 1, by additions of single bits.
func mask(width int) uint64 {
	var x uint64
	for i := range width {
		x |= 1 << i
	}
	return x
}

// power is 2^n.
func power(n int) *big.Int { return new(big.Int).Lsh(big.NewInt(1), uint(n)) }

func number(x uint64) *big.Int { return new(big.Int).SetUint64(x) }

// signedNumber is the signed value of x as the chapter defines it: less 2^width if the sign bit is 1.
func signedNumber(width int, x uint64) *big.Int {
	n := number(x)
	if x>>(width-1)&1 == 1 {
		n.Sub(n, power(width))
	}
	return n
}

// modulo returns n modulo 2^width; n may be negative.
func modulo(width int, n *big.Int) uint64 {
	return new(big.Int).Mod(n, power(width)).Uint64()
}

func truth(is bool) uint64 {
	if is {
		return 1
	}
	return 0
}

// shifted returns n / 2^b, rounded down, with few steps for large b: n is above -2^64 and below 2^64.
func shifted(n *big.Int, b uint64) *big.Int {
	return new(big.Int).Rsh(n, uint(min(b, 100)))
}

// defined is the value of a kind on unbounded integers, as the chapter defines it.
func defined(kind uint8, width int, x, y uint64) uint64 {
	a, b, n := number(x), number(y), new(big.Int)
	switch kind {
	case api.TermNot:
		return modulo(width, n.Sub(n.Sub(power(width), big.NewInt(1)), a))
	case api.TermNeg:
		return modulo(width, n.Neg(a))
	case api.TermAdd:
		return modulo(width, n.Add(a, b))
	case api.TermSub:
		return modulo(width, n.Sub(a, b))
	case api.TermMul:
		return modulo(width, n.Mul(a, b))
	case api.TermAnd:
		return modulo(width, n.And(a, b))
	case api.TermOr:
		return modulo(width, n.Or(a, b))
	case api.TermXor:
		return modulo(width, n.Xor(a, b))
	case api.TermShl:
		return modulo(width, n.Lsh(a, uint(min(y, 100))))
	case api.TermShr:
		return modulo(width, shifted(a, y))
	case api.TermSar:
		return modulo(width, shifted(signedNumber(width, x), y))
	case api.TermUdiv:
		if y == 0 {
			return mask(width)
		}
		return n.Quo(a, b).Uint64()
	case api.TermUrem:
		if y == 0 {
			return x
		}
		return n.Rem(a, b).Uint64()
	case api.TermEq:
		return truth(a.Cmp(b) == 0)
	case api.TermUlt:
		return truth(a.Cmp(b) < 0)
	case api.TermSlt:
		return truth(signedNumber(width, x).Cmp(signedNumber(width, y)) < 0)
	}
	panic("no such kind")
}

// must returns a value that comes without an error.
func must[T any](x T, e api.Errno) T {
	if e != api.OK {
		panic(e)
	}
	return x
}

// binary returns a value of valid arguments.
func binary(kind uint8, width int, a, b uint64) uint64 { return must(bits.Binary(kind, width, a, b)) }
