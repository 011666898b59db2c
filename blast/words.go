package blast

import (
	"slices"

	"retarget/api"
)

// term returns the literals of the bits of a valid pure term, the lowest one first.
func (b *builder) term(t api.Term) []int {
	var of [3][]int
	for i, part := range t.Sub {
		of[i] = b.term(part)
	}
	x, y, z := of[0], of[1], of[2]
	switch t.Kind {
	case api.TermConst:
		return constant(t.Width, t.Bits)
	case api.TermVar:
		return b.vars[t.Name]
	case api.TermNot:
		return inverted(x)
	case api.TermNeg:
		return each(constant(t.Width, 0), inverted(x), b.adder(yes))
	case api.TermAnd:
		return each(x, y, b.and)
	case api.TermOr:
		return each(x, y, b.or)
	case api.TermXor:
		return each(x, y, b.xor)
	case api.TermIte:
		return b.choices(x[0], y, z)
	case api.TermConcat:
		return slices.Concat(y, x)
	case api.TermExtract:
		return x[t.Low : t.Low+t.Width]
	case api.TermZext:
		return extended(x, t.Width, no)
	case api.TermSext:
		return extended(x, t.Width, top(x))
	}
	return b.binary(t.Kind, x, y)
}

// binary returns the bits of an operation that does not work bit by bit.
func (b *builder) binary(kind uint8, x, y []int) []int {
	switch kind {
	case api.TermAdd:
		return each(x, y, b.adder(no))
	case api.TermSub:
		return each(x, inverted(y), b.adder(yes))
	case api.TermMul:
		return b.product(x, y)
	case api.TermShl:
		return reversed(b.shifted(reversed(x), y, no))
	case api.TermShr:
		return b.shifted(x, y, no)
	case api.TermSar:
		return b.shifted(x, y, top(x))
	case api.TermEq:
		return []int{b.equal(x, y)}
	case api.TermUlt:
		return []int{b.less(x, y)}
	case api.TermSlt:
		return []int{b.less(biased(x), biased(y))}
	}
	quotient, rest := b.divided(x, y)
	if kind == api.TermUdiv {
		return quotient
	}
	return rest
}

// each returns what f makes of the bits at each place, from the lowest one up.
func each(x, y []int, f func(x, y int) int) []int {
	var out []int
	for i := range x {
		out = append(out, f(x[i], y[i]))
	}
	return out
}

// constant returns the bits of a number: the literals no and yes are 0 and 1 themselves.
func constant(width int, n uint64) []int {
	var out []int
	for i := range width {
		out = append(out, int(n>>i&1))
	}
	return out
}

func top(x []int) int { return x[len(x)-1] }

func inverted(x []int) []int {
	var out []int
	for _, l := range x {
		out = append(out, not(l))
	}
	return out
}

func reversed(x []int) []int {
	out := slices.Clone(x)
	slices.Reverse(out)
	return out
}

// extended returns x with as many copies of fill above it as it needs for the width.
func extended(x []int, width, fill int) []int {
	return slices.Concat(x, slices.Repeat([]int{fill}, width-len(x)))
}

// biased returns x with its sign bit inverted: numbers with signs then have the order of those without.
func biased(x []int) []int {
	out := slices.Clone(x)
	out[len(out)-1] = not(top(x))
	return out
}

// choices returns x if which is true, otherwise y.
func (b *builder) choices(which int, x, y []int) []int {
	return each(x, y, func(x, y int) int { return b.choice(which, x, y) })
}

func (b *builder) equal(x, y []int) int {
	equal := yes
	for i := range x {
		equal = b.and(equal, not(b.xor(x[i], y[i])))
	}
	return equal
}

// less reports which number is less by the highest bit in which they differ.
func (b *builder) less(x, y []int) int {
	less := no
	for i := range x {
		less = b.choice(b.xor(x[i], y[i]), y[i], less)
	}
	return less
}

// shifted returns x shifted down by the number by, with copies of fill above it. The bits of by that alone shift by the width or more are taken together: a choice for each of them would need too many gates.
func (b *builder) shifted(x, by []int, fill int) []int {
	far := no
	for k, bit := range by {
		if (len(x)-1)>>k == 0 {
			far = b.or(far, bit)
			continue
		}
		x = b.choices(bit, extended(x[1<<k:], len(x), fill), x)
	}
	return b.choices(far, extended(nil, len(x), fill), x)
}

// product adds x, shifted up, for each bit of y that is true.
func (b *builder) product(x, y []int) []int {
	sum := constant(len(x), 0)
	for i, bit := range y {
		add := b.adder(no)
		for k := i; k < len(sum); k++ {
			sum[k] = add(sum[k], b.and(x[k-i], bit))
		}
	}
	return sum
}

// divided takes the bits of x into the rest, the highest one first, and subtracts y from it wherever that leaves no less than 0. For y = 0 this gives all ones, and x, as the document asks for.
func (b *builder) divided(x, y []int) (quotient, rest []int) {
	quotient = constant(len(x), 0)
	for i := len(x) - 1; i >= 0; i-- {
		rest = slices.Concat(x[i:i+1], rest)
		subtract := b.adder(yes)
		less := each(extended(rest, len(x), no), inverted(y), subtract)
		quotient[i] = subtract(no, no)
		rest = b.choices(quotient[i], less[:len(rest)], rest)
	}
	return quotient, rest
}
