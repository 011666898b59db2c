package format_test

import (
	"math"
	"math/big"
	"math/rand/v2"
	"slices"
	"testing"

	"retarget/api"
	"retarget/format"
)

// extremes are numbers at which sums, differences and shifts may go wrong.
var extremes = []int{math.MinInt, math.MinInt + 1, -1 << 32, -65, -64, -3, -1, 0, 1, 2, 3, 4, 31, 32, 33, 63, 64, 65, 1 << 32, math.MaxInt - 1, math.MaxInt}

// kinds are those that numbers have.
var kinds = []uint8{api.OperandSigned, api.OperandUnsigned, api.OperandJump}

// layout returns the pieces At, Len, At, Len and so on.
func layout(places ...int) []api.MachPiece {
	var l []api.MachPiece
	for i := 0; i < len(places); i += 2 {
		l = append(l, api.MachPiece{At: places[i], Len: places[i+1]})
	}
	return l
}

// must returns a value that comes without an error.
func must[T any](x T, e api.Errno) T {
	if e != api.OK {
		panic(e)
	}
	return x
}

// is fails unless a call had this value and this error.
func is[T comparable](t *testing.T, what any, x T, e api.Errno, want T, wanted api.Errno) {
	t.Helper()
	if x != want || e != wanted {
		t.Errorf("%v: %v %d, not %v %d", what, x, e, want, wanted)
	}
}

// wrong returns the error that the chapter has for a layout.
func wrong(size int, pieces []api.MachPiece) api.Errno {
	if size < 1 || size > 64 {
		return api.ErrArg
	}
	if len(pieces) > 4 {
		return api.ErrMany
	}
	taken := map[int]bool{}
	for _, p := range pieces {
		end := new(big.Int).Add(big.NewInt(int64(p.At)), big.NewInt(int64(p.Len)))
		if p.Len < 1 || p.At < 0 || end.Cmp(big.NewInt(int64(size))) > 0 {
			return api.ErrBad
		}
		for i := range p.Len {
			if taken[p.At+i] {
				return api.ErrBad
			}
			taken[p.At+i] = true
		}
	}
	return api.OK
}

// bitsOf returns the bits of the word that are the field of a valid layout, the least significant one first.
func bitsOf(pieces []api.MachPiece) []int {
	var l []int
	for _, p := range pieces {
		for i := range p.Len {
			l = append(l, p.At+i)
		}
	}
	return l
}

func bit(x uint64, i int) bool { return x>>i&1 == 1 }

// number returns the number whose bits these are.
func number(size int, is func(i int) bool) uint64 {
	var x uint64
	for i := range size {
		if is(i) {
			x |= 1 << i
		}
	}
	return x
}

func maskOf(pieces []api.MachPiece) uint64 {
	return number(64, func(i int) bool { return slices.Contains(bitsOf(pieces), i) })
}

func fieldOf(word uint64, pieces []api.MachPiece) uint64 {
	l := bitsOf(pieces)
	return number(len(l), func(i int) bool { return bit(word, l[i]) })
}

func wordWith(word uint64, pieces []api.MachPiece, field uint64) uint64 {
	l := bitsOf(pieces)
	return number(64, func(i int) bool {
		if k := slices.Index(l, i); k >= 0 {
			return bit(field, k)
		}
		return bit(word, i)
	})
}

// isBelow reports whether x is below 2^width.
func isBelow(x uint64, width int) bool {
	return new(big.Int).SetUint64(x).Cmp(new(big.Int).Lsh(big.NewInt(1), uint(width))) < 0
}

// agrees holds the functions of fields in words against the chapter's definitions.
func agrees(t *testing.T, size int, word uint64, pieces []api.MachPiece, field uint64) {
	t.Helper()
	e := wrong(size, pieces)
	if got := format.Check(size, pieces); got != e {
		t.Errorf("check %d %v: %d, not %d", size, pieces, got, e)
	}
	if e != api.OK {
		x, got := format.Mask(size, pieces)
		is(t, pieces, x, got, 0, e)
		x, got = format.Get(size, word, pieces)
		is(t, pieces, x, got, 0, e)
		x, got = format.Put(size, word, pieces, field)
		is(t, pieces, x, got, 0, e)
		return
	}
	mask, got := format.Mask(size, pieces)
	is(t, pieces, mask, got, maskOf(pieces), api.OK)
	wanted, wantedPut := fieldOf(word, pieces), wordWith(word, pieces, field)
	e = api.OK
	if !isBelow(word, size) {
		wanted, e = 0, api.ErrRange
	}
	x, got := format.Get(size, word, pieces)
	is(t, []any{"get", size, word, pieces}, x, got, wanted, e)
	if e == api.ErrRange || !isBelow(field, len(bitsOf(pieces))) {
		wantedPut, e = 0, api.ErrRange
	}
	x, got = format.Put(size, word, pieces, field)
	is(t, []any{"put", size, word, pieces, field}, x, got, wantedPut, e)
}

// random is a source of numbers that is the same in each run.
type random struct{ *rand.Rand }

func newRandom(seed uint64) random { return random{rand.New(rand.NewPCG(seed, 9))} }

// below returns a number below 2^width, often one near a bound.
func (r random) below(width int) uint64 {
	var most uint64
	if width > 0 {
		most = ^uint64(0) >> (64 - width)
	}
	switch r.IntN(6) {
	case 0:
		return most
	case 1:
		return 0
	}
	return r.Uint64() & most
}

// layout returns a valid layout of at most this many pieces for words of the size.
func (r random) layout(size, most int) []api.MachPiece {
	for {
		l := make([]api.MachPiece, r.IntN(most+1))
		for i := range l {
			l[i].Len = 1 + r.IntN(size)
			l[i].At = r.IntN(size - l[i].Len + 1)
		}
		if wrong(size, l) == api.OK {
			return l
		}
	}
}

// integers returns the bounds of the integers that the chapter has for a kind and a width.
func integers(kind uint8, width int) (least, most *big.Int) {
	one := big.NewInt(1)
	if kind == api.OperandUnsigned {
		most = new(big.Int).Lsh(one, uint(width))
		return big.NewInt(0), most.Sub(most, one)
	}
	most = new(big.Int).Lsh(one, uint(width-1))
	return new(big.Int).Neg(most), new(big.Int).Sub(most, one)
}

// integer returns the integer k of which n is 2^scale times, if it is in the field.
func integer(kind uint8, width, scale, n int) (*big.Int, bool) {
	k, rest := new(big.Int).DivMod(big.NewInt(int64(n)), new(big.Int).Lsh(big.NewInt(1), uint(scale)), new(big.Int))
	least, most := integers(kind, width)
	return k, rest.Sign() == 0 && k.Cmp(least) >= 0 && k.Cmp(most) <= 0
}

// numbersNear returns numbers at the bounds of the field, and some others.
func numbersNear(kind uint8, width, scale int) []int {
	least, most := integers(kind, width)
	var l []int
	for _, n := range []int{int(least.Int64()) << scale, int(most.Int64()) << scale, 0, 1 << (width + scale - 1)} {
		for d := -9; d <= 9; d++ {
			l = append(l, n+d)
		}
		for _, d := range []int{-2, -1, 1, 2} {
			l = append(l, n+d<<scale)
		}
	}
	return append(l, extremes...)
}
