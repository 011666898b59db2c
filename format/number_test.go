package format_test

import (
	"math"
	"math/big"
	"slices"
	"testing"

	"retarget/api"
	"retarget/format"
)

func TestP9_3Range(t *testing.T) {
	for _, c := range []struct {
		kind                    uint8
		width, scale, low, high int
	}{
		{api.OperandSigned, 1, 0, -1, 0}, {api.OperandJump, 1, 0, -1, 0}, {api.OperandUnsigned, 1, 0, 0, 1}, {api.OperandSigned, 8, 0, -128, 127}, {api.OperandJump, 8, 0, -128, 127}, {api.OperandUnsigned, 8, 0, 0, 255},
		{api.OperandSigned, 1, 3, -8, 0}, {api.OperandUnsigned, 1, 3, 0, 8}, {api.OperandSigned, 4, 1, -16, 14}, {api.OperandJump, 4, 2, -32, 28}, {api.OperandUnsigned, 4, 2, 0, 60}, {api.OperandUnsigned, 5, 3, 0, 248},
		{api.OperandSigned, 32, 0, -2147483648, 2147483647}, {api.OperandUnsigned, 32, 0, 0, 4294967295}, {api.OperandSigned, 32, 3, -17179869184, 17179869176}, {api.OperandJump, 32, 3, -17179869184, 17179869176}, {api.OperandUnsigned, 32, 3, 0, 34359738360},
	} {
		low, high, e := format.Range(c.kind, c.width, c.scale)
		is(t, c, low, e, c.low, api.OK)
		is(t, c, high, e, c.high, api.OK)
	}
}

func TestP9_3FieldAndNumber(t *testing.T) {
	for _, c := range []struct {
		kind            uint8
		width, scale, n int
		field           uint64
	}{
		{api.OperandSigned, 4, 0, -3, 13}, {api.OperandSigned, 4, 1, -6, 13}, {api.OperandJump, 4, 0, -3, 13}, {api.OperandJump, 4, 3, -24, 13}, {api.OperandUnsigned, 4, 0, 13, 13}, {api.OperandUnsigned, 4, 3, 104, 13},
		{api.OperandSigned, 4, 0, 7, 7}, {api.OperandSigned, 4, 0, -8, 8}, {api.OperandSigned, 4, 0, -1, 15}, {api.OperandUnsigned, 4, 0, 0, 0}, {api.OperandSigned, 1, 0, -1, 1}, {api.OperandSigned, 1, 2, -4, 1}, {api.OperandUnsigned, 1, 2, 4, 1},
		{api.OperandSigned, 32, 0, -1, 0xffffffff}, {api.OperandSigned, 32, 0, -2147483648, 0x80000000}, {api.OperandSigned, 32, 3, 17179869176, 0x7fffffff}, {api.OperandUnsigned, 32, 0, 4294967295, 0xffffffff}, {api.OperandUnsigned, 32, 3, 34359738360, 0xffffffff}, {api.OperandJump, 32, 3, -8, 0xffffffff},
	} {
		field, e := format.Field(c.kind, c.width, c.scale, c.n)
		is(t, c, field, e, c.field, api.OK)
		n, e := format.Number(c.kind, c.width, c.scale, c.field)
		is(t, c, n, e, c.n, api.OK)
	}
}

func TestP9_3OutOfRange(t *testing.T) {
	for _, c := range []struct {
		kind            uint8
		width, scale, n int
	}{
		{api.OperandSigned, 4, 0, 8}, {api.OperandSigned, 4, 0, -9}, {api.OperandJump, 4, 0, 8}, {api.OperandJump, 4, 0, -9}, {api.OperandUnsigned, 4, 0, 16}, {api.OperandUnsigned, 4, 0, -1}, {api.OperandUnsigned, 4, 3, -8}, {api.OperandUnsigned, 4, 3, 128},
		{api.OperandSigned, 4, 1, 3}, {api.OperandSigned, 4, 1, -3}, {api.OperandSigned, 4, 3, 4}, {api.OperandSigned, 4, 3, -4}, {api.OperandJump, 5, 2, -6}, {api.OperandUnsigned, 4, 1, 1}, {api.OperandSigned, 4, 1, 16}, {api.OperandSigned, 4, 1, 15}, {api.OperandSigned, 4, 1, -18},
		{api.OperandSigned, 1, 0, 1}, {api.OperandUnsigned, 32, 0, 1 << 32}, {api.OperandSigned, 32, 0, 1 << 31}, {api.OperandSigned, 32, 0, -1<<31 - 1}, {api.OperandSigned, 32, 3, 1 << 34}, {api.OperandUnsigned, 32, 0, math.MinInt}, {api.OperandUnsigned, 32, 3, math.MinInt}, {api.OperandSigned, 32, 3, math.MinInt}, {api.OperandSigned, 32, 0, math.MaxInt}, {api.OperandUnsigned, 8, 0, 1<<32 + 1}, {api.OperandUnsigned, 8, 0, 1 << 62},
	} {
		field, e := format.Field(c.kind, c.width, c.scale, c.n)
		is(t, c, field, e, 0, api.ErrRange)
	}
	for _, kind := range kinds {
		for width := 1; width <= 32; width++ {
			for _, field := range []uint64{1 << width, 1<<width + 1, 1 << 33, 1 << 63, math.MaxUint64} {
				n, e := format.Number(kind, width, 0, field)
				is(t, []any{kind, width, field}, n, e, 0, api.ErrRange)
			}
		}
	}
}

func TestP9_3Fit(t *testing.T) {
	for _, c := range []struct {
		kind            uint8
		scale, n, width int
	}{
		{api.OperandSigned, 0, 127, 8}, {api.OperandSigned, 0, -128, 8}, {api.OperandSigned, 0, 128, 9}, {api.OperandSigned, 0, -129, 9}, {api.OperandSigned, 0, 0, 1}, {api.OperandSigned, 0, -1, 1}, {api.OperandSigned, 0, 1, 2}, {api.OperandSigned, 0, -2, 2}, {api.OperandSigned, 0, 2, 3},
		{api.OperandJump, 0, 127, 8}, {api.OperandJump, 0, -129, 9}, {api.OperandJump, 3, 8, 2}, {api.OperandSigned, 3, -8, 1}, {api.OperandSigned, 1, -6, 3},
		{api.OperandUnsigned, 0, 0, 1}, {api.OperandUnsigned, 0, 1, 1}, {api.OperandUnsigned, 0, 2, 2}, {api.OperandUnsigned, 0, 255, 8}, {api.OperandUnsigned, 0, 256, 9}, {api.OperandUnsigned, 2, 1024, 9}, {api.OperandUnsigned, 2, 1020, 8},
		{api.OperandSigned, 0, 1<<31 - 1, 32}, {api.OperandSigned, 0, -1 << 31, 32}, {api.OperandSigned, 0, 1<<30 - 1, 31}, {api.OperandUnsigned, 0, 1<<32 - 1, 32}, {api.OperandUnsigned, 0, 1<<31 - 1, 31}, {api.OperandUnsigned, 3, 1<<35 - 8, 32}, {api.OperandSigned, 3, -1 << 34, 32}, {api.OperandSigned, 3, 1<<34 - 8, 32},
	} {
		width, e := format.Fit(c.kind, c.scale, c.n)
		is(t, c, width, e, c.width, api.OK)
	}
	for _, c := range []struct {
		kind     uint8
		scale, n int
	}{
		{api.OperandSigned, 0, 1 << 31}, {api.OperandSigned, 0, -1<<31 - 1}, {api.OperandUnsigned, 0, 1 << 32}, {api.OperandUnsigned, 0, -1}, {api.OperandUnsigned, 3, -8}, {api.OperandSigned, 1, 1}, {api.OperandSigned, 1, -1}, {api.OperandJump, 2, 2}, {api.OperandUnsigned, 3, 4}, {api.OperandSigned, 3, 1 << 34}, {api.OperandUnsigned, 3, 1 << 35}, {api.OperandJump, 0, math.MinInt}, {api.OperandJump, 3, math.MaxInt}, {api.OperandUnsigned, 0, math.MinInt}, {api.OperandUnsigned, 3, math.MinInt}, {api.OperandUnsigned, 0, math.MaxInt},
	} {
		width, e := format.Fit(c.kind, c.scale, c.n)
		is(t, c, width, e, 0, api.ErrRange)
	}
}

// fails fails unless all functions that get these arguments have the error, whatever the number or the field.
func fails(t *testing.T, kind uint8, width, scale int, want api.Errno) {
	t.Helper()
	what := []int{int(kind), width, scale}
	low, high, e := format.Range(kind, width, scale)
	is(t, what, low, e, 0, want)
	is(t, what, high, e, 0, want)
	for _, n := range []int{0, 1, -8, math.MinInt, math.MaxInt} {
		field, e := format.Field(kind, width, scale, n)
		is(t, what, field, e, 0, want)
	}
	for _, field := range []uint64{0, 1, 1 << 32, math.MaxUint64} {
		n, e := format.Number(kind, width, scale, field)
		is(t, what, n, e, 0, want)
	}
}

func TestP9_3Arguments(t *testing.T) {
	for kind := range 256 {
		k := uint8(kind)
		known := slices.Contains(kinds, k)
		for _, width := range extremes {
			for _, scale := range extremes {
				if known && width >= 1 && width <= 32 && scale >= 0 && scale <= 3 {
					_, _, e := format.Range(k, width, scale)
					is(t, width, 0, e, 0, api.OK)
				} else {
					fails(t, k, width, scale, api.ErrArg)
				}
			}
		}
		for _, scale := range extremes {
			if known && scale >= 0 && scale <= 3 {
				continue
			}
			for _, n := range extremes {
				width, e := format.Fit(k, scale, n)
				is(t, []int{kind, scale, n}, width, e, 0, api.ErrArg)
			}
		}
	}
}

// TestP9_3Chapter holds all widths and scales against the chapter's definitions, with numbers at the bounds.
func TestP9_3Chapter(t *testing.T) {
	for _, kind := range kinds {
		for width := 1; width <= 32; width++ {
			for scale := range 4 {
				least, most := integers(kind, width)
				low, high, e := format.Range(kind, width, scale)
				is(t, []int{int(kind), width, scale}, low, e, int(least.Int64())<<scale, api.OK)
				is(t, []int{int(kind), width, scale}, high, e, int(most.Int64())<<scale, api.OK)
				for _, n := range numbersNear(kind, width, scale) {
					isFieldOf(t, kind, width, scale, n)
					isFitOf(t, kind, scale, n)
				}
			}
		}
	}
}

// isFieldOf fails unless Field and Number are what the chapter says for n.
func isFieldOf(t *testing.T, kind uint8, width, scale, n int) {
	t.Helper()
	what := []int{int(kind), width, scale, n}
	field, e := format.Field(kind, width, scale, n)
	k, in := integer(kind, width, scale, n)
	if !in {
		is(t, what, field, e, 0, api.ErrRange)
		return
	}
	want := new(big.Int).Mod(k, new(big.Int).Lsh(big.NewInt(1), uint(width))).Uint64()
	is(t, what, field, e, want, api.OK)
	back, e := format.Number(kind, width, scale, want)
	is(t, what, back, e, n, api.OK)
}

// isFitOf fails unless Fit finds the least width that the chapter has n in.
func isFitOf(t *testing.T, kind uint8, scale, n int) {
	t.Helper()
	want, wanted := 0, api.ErrRange
	for width := 32; width >= 1; width-- {
		if _, in := integer(kind, width, scale, n); in {
			want, wanted = width, api.OK
		}
	}
	width, e := format.Fit(kind, scale, n)
	is(t, []int{int(kind), scale, n}, width, e, want, wanted)
}
