package bits_test

import (
	"math"
	"math/big"
	"strings"
	"testing"

	"retarget/api"
	"retarget/bits"
)

func TestP1_1Name(t *testing.T) {
	for _, s := range []string{"a", "z", "A", "Z", "m0", "a_", "a__9", "Ab9_z", "pc", strings.Repeat("x", 23), strings.Repeat("Q", 24), "a" + strings.Repeat("_", 23)} {
		if !bits.Name(s) {
			t.Errorf("%q is a name", s)
		}
	}
	for _, s := range []string{"", "_", "_a", "9", "9a", "a b", " a", "a ", "a.b", "r.a", "a-b", "a\n", "\x00", "a\x00", "é", "aé", "ſ", "aſ", "Ａ", "a９", "\xff", "a\xff", strings.Repeat("x", 25), strings.Repeat("x", 24) + "é", strings.Repeat("x", 1000)} {
		if bits.Name(s) {
			t.Errorf("%q is no name", s)
		}
	}
}

func TestP1_1NameOfEachByte(t *testing.T) {
	const letters = "abcdefghijklmnopqrstuvwxyzABCDEFGHIJKLMNOPQRSTUVWXYZ"
	for c := range 256 {
		s := string([]byte{byte(c)})
		if bits.Name(s) != strings.Contains(letters, s) {
			t.Errorf("first byte %q", s)
		}
		if later := "a" + s + "b"; bits.Name(later) != strings.Contains(letters+"0123456789_", s) {
			t.Errorf("later byte %q", s)
		}
	}
}

func TestP1_1OkAndMask(t *testing.T) {
	for w := 1; w <= 64; w++ {
		most := mask(w)
		if bits.Mask(w) != most {
			t.Errorf("mask of %d: %x", w, bits.Mask(w))
		}
		for _, x := range samples(w) {
			if !bits.Ok(w, x) {
				t.Errorf("%x is a value of %d", x, w)
			}
		}
		if w < 64 && (bits.Ok(w, most+1) || bits.Ok(w, ^uint64(0)) || bits.Ok(w, 1<<63)) {
			t.Errorf("%x is no value of %d", most+1, w)
		}
	}
	for _, w := range noWidths {
		if bits.Mask(w) != 0 || bits.Ok(w, 0) || bits.Ok(w, 1) || bits.Ok(w, ^uint64(0)) {
			t.Errorf("%d is no width", w)
		}
	}
}

func TestP1_3Signed(t *testing.T) {
	for w := 1; w <= 64; w++ {
		for _, x := range samples(w) {
			n, e := bits.Signed(w, x)
			if want := signedNumber(w, x); e != api.OK || big.NewInt(n).Cmp(want) != 0 {
				t.Errorf("signed %d:%x: %d %d, not %s", w, x, n, e, want)
			}
		}
		if n, e := bits.Signed(w, mask(w)+1); w < 64 && (n != 0 || e != api.ErrBad) {
			t.Errorf("signed %d: %d %d", w, n, e)
		}
	}
	for _, w := range noWidths {
		if n, e := bits.Signed(w, ^uint64(0)); n != 0 || e != api.ErrWidth {
			t.Errorf("signed %d: %d %d", w, n, e)
		}
	}
}

func TestP1_3Of(t *testing.T) {
	for w := 1; w <= 64; w++ {
		least, most := int64(-1)<<(w-1), int64(mask(w-1))
		for _, n := range []int64{0, 1, -1, 2, -2, 7, -7, least - 1, least, least + 1, most - 1, most, most + 1, math.MinInt64, math.MaxInt64} {
			x, e := bits.Of(w, n)
			if n < least || n > most {
				if x != 0 || e != api.ErrRange {
					t.Errorf("of %d %d: %x %d", w, n, x, e)
				}
			} else if e != api.OK || x > mask(w) || signedNumber(w, x).Cmp(big.NewInt(n)) != 0 {
				t.Errorf("of %d %d: %x %d", w, n, x, e)
			}
		}
	}
	for _, w := range noWidths {
		for _, n := range []int64{0, math.MinInt64} {
			if x, e := bits.Of(w, n); x != 0 || e != api.ErrWidth {
				t.Errorf("of %d: %x %d", w, x, e)
			}
		}
	}
}

func TestP1_4Extract(t *testing.T) {
	for w := 1; w <= 64; w++ {
		for _, x := range samples(w) {
			for low := range w {
				for many := 1; low+many <= w; many++ {
					want := modulo(many, shifted(number(x), uint64(low)))
					if y, e := bits.Extract(w, x, low, many); e != api.OK || y != want {
						t.Fatalf("extract %d:%x %d %d: %x %d, not %x", w, x, low, many, y, e, want)
					}
				}
			}
		}
	}
}

func TestP1_4ExtractErrors(t *testing.T) {
	for _, c := range []struct {
		w         int
		x         uint64
		low, many int
		e         api.Errno
	}{
		{0, 0, 0, 1, api.ErrWidth}, {65, 0, 0, 1, api.ErrWidth}, {-8, 0, -1, 0, api.ErrWidth}, {0, 1, -1, 0, api.ErrWidth},
		{8, 256, 0, 1, api.ErrBad}, {8, 256, -1, 0, api.ErrBad}, {1, 2, 0, 1, api.ErrBad}, {63, 1 << 63, 0, 99, api.ErrBad},
		{8, 255, -1, 1, api.ErrArg}, {8, 255, -1, 2, api.ErrArg}, {8, 255, 0, 0, api.ErrArg}, {8, 255, 0, -1, api.ErrArg},
		{8, 255, 0, 9, api.ErrArg}, {8, 255, 8, 1, api.ErrArg}, {8, 255, 8, 0, api.ErrArg}, {8, 255, 9, -1, api.ErrArg}, {8, 255, 7, 2, api.ErrArg}, {64, 1, 64, 1, api.ErrArg}, {64, 1, 1, 64, api.ErrArg}, {64, 1, 0, 65, api.ErrArg},
		{64, 1, math.MaxInt, math.MaxInt, api.ErrArg}, {64, 1, 1, math.MaxInt, api.ErrArg}, {64, 1, math.MaxInt, 1, api.ErrArg}, {64, 1, math.MinInt, math.MaxInt, api.ErrArg}, {64, 1, math.MinInt, 1, api.ErrArg}, {64, 1, 0, math.MinInt, api.ErrArg},
	} {
		if y, e := bits.Extract(c.w, c.x, c.low, c.many); y != 0 || e != c.e {
			t.Errorf("extract %v: %x %d", c, y, e)
		}
	}
}

func TestP1_4Concat(t *testing.T) {
	for high := 1; high < 64; high++ {
		for low := 1; high+low <= 64; low++ {
			for _, a := range samples(high) {
				for _, b := range samples(low) {
					if x, e := bits.Concat(high, a, low, b); e != api.OK || x>>low != a || x&mask(low) != b {
						t.Fatalf("concat %d:%x %d:%x: %x %d", high, a, low, b, x, e)
					}
				}
			}
		}
	}
	for _, c := range []struct {
		high int
		a    uint64
		low  int
		b    uint64
		e    api.Errno
	}{
		{0, 0, 8, 0, api.ErrWidth}, {8, 0, 0, 0, api.ErrWidth}, {64, 0, 1, 0, api.ErrWidth}, {1, 0, 64, 0, api.ErrWidth}, {33, 0, 32, 0, api.ErrWidth}, {-1, 0, 9, 0, api.ErrWidth}, {9, 0, -1, 0, api.ErrWidth}, {64, 0, 0, 0, api.ErrWidth},
		{math.MaxInt, 0, math.MaxInt, 0, api.ErrWidth}, {math.MaxInt, 0, 3, 0, api.ErrWidth}, {3, 0, math.MaxInt, 0, api.ErrWidth}, {math.MinInt, 0, math.MinInt, 0, api.ErrWidth}, {65, 0, -1, 0, api.ErrWidth},
		{4, 16, 61, 0, api.ErrWidth}, {0, 9, 8, 256, api.ErrWidth},
		{4, 16, 4, 0, api.ErrBad}, {4, 0, 4, 16, api.ErrBad}, {4, 16, 60, 0, api.ErrBad}, {1, 0, 63, 1 << 63, api.ErrBad}, {4, ^uint64(0), 4, ^uint64(0), api.ErrBad},
	} {
		if x, e := bits.Concat(c.high, c.a, c.low, c.b); x != 0 || e != c.e {
			t.Errorf("concat %v: %x %d", c, x, e)
		}
	}
}

func TestP1_4Extend(t *testing.T) {
	for w := 1; w <= 64; w++ {
		for to := w; to <= 64; to++ {
			for _, x := range samples(w) {
				if y, e := bits.Extend(w, x, to, false); e != api.OK || y != x {
					t.Fatalf("extend %d:%x to %d: %x %d", w, x, to, y, e)
				}
				want := modulo(to, signedNumber(w, x))
				if y, e := bits.Extend(w, x, to, true); e != api.OK || y != want {
					t.Fatalf("extend %d:%x to %d with its sign: %x %d, not %x", w, x, to, y, e, want)
				}
			}
		}
	}
	for _, c := range []struct {
		w  int
		x  uint64
		to int
		e  api.Errno
	}{
		{0, 0, 8, api.ErrWidth}, {-1, 0, 8, api.ErrWidth}, {math.MinInt, 0, 8, api.ErrWidth}, {8, 0, 7, api.ErrWidth}, {8, 0, 65, api.ErrWidth}, {65, 0, 65, api.ErrWidth}, {64, 0, 63, api.ErrWidth}, {64, 0, 65, api.ErrWidth},
		{8, 0, math.MaxInt, api.ErrWidth}, {8, 0, math.MinInt, api.ErrWidth}, {8, 0, 0, api.ErrWidth}, {8, 0, -1, api.ErrWidth}, {0, 0, 0, api.ErrWidth},
		{8, 256, 7, api.ErrWidth}, {8, 256, 65, api.ErrWidth},
		{8, 256, 8, api.ErrBad}, {8, 256, 16, api.ErrBad}, {1, 2, 64, api.ErrBad}, {63, 1 << 63, 64, api.ErrBad},
	} {
		for _, sign := range []bool{false, true} {
			if y, e := bits.Extend(c.w, c.x, c.to, sign); y != 0 || e != c.e {
				t.Errorf("extend %v %v: %x %d", c, sign, y, e)
			}
		}
	}
}
