package bits_test

import (
	"math"
	"testing"

	"retarget/api"
	"retarget/bits"
)

func TestP1_2Unary(t *testing.T) {
	for w := 1; w <= 64; w++ {
		for _, a := range samples(w) {
			for _, kind := range []uint8{api.TermNot, api.TermNeg} {
				want := defined(kind, w, a, 0)
				if x, e := bits.Unary(kind, w, a); e != api.OK || x != want {
					t.Fatalf("%d of %d:%x: %x %d, not %x", kind, w, a, x, e, want)
				}
			}
		}
	}
}

func TestP1_2Binary(t *testing.T) {
	for w := 1; w <= 64; w++ {
		for _, a := range samples(w) {
			for _, b := range samples(w) {
				for kind := api.TermAdd; kind <= api.TermSlt; kind++ {
					want := defined(kind, w, a, b)
					if x, e := bits.Binary(kind, w, a, b); e != api.OK || x != want {
						t.Fatalf("%d of %d:%x %x: %x %d, not %x", kind, w, a, b, x, e, want)
					}
				}
			}
		}
	}
}

func TestP1_2AllValuesOfSmallWidths(t *testing.T) {
	for _, w := range []int{4, 5} {
		for a := range mask(w) + 1 {
			for b := range mask(w) + 1 {
				for kind := api.TermAdd; kind <= api.TermSlt; kind++ {
					if x := binary(kind, w, a, b); x != defined(kind, w, a, b) {
						t.Fatalf("%d of %d:%x %x: %x", kind, w, a, b, x)
					}
				}
			}
		}
	}
}

func TestP1_2Examples(t *testing.T) {
	for _, c := range []struct {
		kind    uint8
		w       int
		a, b, x uint64
	}{
		{api.TermAdd, 8, 200, 100, 44}, {api.TermSar, 8, 200, 4, 252}, {api.TermUdiv, 8, 7, 0, 255}, {api.TermUrem, 8, 7, 0, 7},
		{api.TermUdiv, 64, 7, 0, math.MaxUint64}, {api.TermUdiv, 1, 0, 0, 1}, {api.TermUrem, 1, 1, 0, 1},
		{api.TermShl, 8, 1, 7, 128}, {api.TermShl, 8, 1, 8, 0}, {api.TermShl, 8, 255, 255, 0}, {api.TermShl, 64, 1, 63, 1 << 63}, {api.TermShl, 64, 1, 64, 0}, {api.TermShl, 64, 1, math.MaxUint64, 0}, {api.TermShl, 1, 1, 1, 0},
		{api.TermShr, 8, 255, 8, 0}, {api.TermShr, 8, 255, 9, 0}, {api.TermShr, 64, math.MaxUint64, 64, 0}, {api.TermShr, 64, math.MaxUint64, 1 << 63, 0},
		{api.TermSar, 8, 128, 7, 255}, {api.TermSar, 8, 128, 8, 255}, {api.TermSar, 8, 127, 8, 0}, {api.TermSar, 8, 128, 255, 255}, {api.TermSar, 64, 1 << 63, math.MaxUint64, math.MaxUint64}, {api.TermSar, 1, 1, 1, 1},
		{api.TermSlt, 8, 128, 127, 1}, {api.TermSlt, 8, 127, 128, 0}, {api.TermSlt, 64, 1 << 63, 0, 1}, {api.TermSlt, 1, 1, 0, 1}, {api.TermUlt, 1, 1, 0, 0}, {api.TermEq, 1, 1, 1, 1},
	} {
		if x, e := bits.Binary(c.kind, c.w, c.a, c.b); e != api.OK || x != c.x {
			t.Errorf("%v: %x %d", c, x, e)
		}
	}
}

func TestP1_2Kinds(t *testing.T) {
	for k := range 256 {
		kind, unary, binary := uint8(k), api.ErrArg, api.ErrArg
		if kind == api.TermNot || kind == api.TermNeg {
			unary = api.OK
		}
		if kind >= api.TermAdd && kind <= api.TermSlt {
			binary = api.OK
		}
		if x, e := bits.Unary(kind, 8, 1); e != unary || e != api.OK && x != 0 {
			t.Errorf("unary %d: %x %d", k, x, e)
		}
		if x, e := bits.Binary(kind, 8, 1, 1); e != binary || e != api.OK && x != 0 {
			t.Errorf("binary %d: %x %d", k, x, e)
		}
	}
}

// TestP1_2ErrorsInOrder also has arguments with several errors, of which ErrWidth comes first, and then ErrArg.
func TestP1_2ErrorsInOrder(t *testing.T) {
	for _, w := range noWidths {
		for _, kind := range []uint8{api.TermConst, api.TermNot, api.TermAdd, api.TermSlt, api.TermLoad, 255} {
			if x, e := bits.Unary(kind, w, math.MaxUint64); x != 0 || e != api.ErrWidth {
				t.Errorf("unary %d %d: %x %d", kind, w, x, e)
			}
			if x, e := bits.Binary(kind, w, 0, math.MaxUint64); x != 0 || e != api.ErrWidth {
				t.Errorf("binary %d %d: %x %d", kind, w, x, e)
			}
		}
	}
	for w := 1; w < 64; w++ {
		large := mask(w) + 1
		if x, e := bits.Unary(api.TermNeg, w, large); x != 0 || e != api.ErrBad {
			t.Errorf("unary %d: %x %d", w, x, e)
		}
		if x, e := bits.Unary(api.TermAdd, w, large); x != 0 || e != api.ErrArg {
			t.Errorf("unary %d: %x %d", w, x, e)
		}
		for _, c := range [][2]uint64{{large, 0}, {0, large}, {large, large}, {0, math.MaxUint64}} {
			if x, e := bits.Binary(api.TermEq, w, c[0], c[1]); x != 0 || e != api.ErrBad {
				t.Errorf("binary %d %v: %x %d", w, c, x, e)
			}
			if x, e := bits.Binary(api.TermNot, w, c[0], c[1]); x != 0 || e != api.ErrArg {
				t.Errorf("binary %d %v: %x %d", w, c, x, e)
			}
		}
	}
}
