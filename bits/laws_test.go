package bits_test

import (
	"math"
	"testing"

	"retarget/api"
	"retarget/bits"
)

func TestP1_6Ring(t *testing.T) {
	for w := 1; w <= 64; w++ {
		add := func(a, b uint64) uint64 { return binary(api.TermAdd, w, a, b) }
		mul := func(a, b uint64) uint64 { return binary(api.TermMul, w, a, b) }
		for _, a := range samples(w) {
			negative := must(bits.Unary(api.TermNeg, w, a))
			if add(a, 0) != a || mul(a, 1) != a || mul(1, a) != a || add(a, negative) != 0 {
				t.Fatalf("neutral elements or negatives: %d:%x", w, a)
			}
			for _, b := range samples(w) {
				if add(a, b) != add(b, a) || mul(a, b) != mul(b, a) || binary(api.TermSub, w, add(a, b), b) != a {
					t.Fatalf("commutative, or a difference: %d:%x %x", w, a, b)
				}
				for _, c := range samples(w) {
					if add(add(a, b), c) != add(a, add(b, c)) || mul(mul(a, b), c) != mul(a, mul(b, c)) {
						t.Fatalf("associative: %d:%x %x %x", w, a, b, c)
					}
					if mul(a, add(b, c)) != add(mul(a, b), mul(a, c)) || mul(add(a, b), c) != add(mul(a, c), mul(b, c)) {
						t.Fatalf("distributive: %d:%x %x %x", w, a, b, c)
					}
				}
			}
		}
	}
}

func TestP1_6ExtractAndConcat(t *testing.T) {
	for w := 2; w <= 64; w++ {
		for low := 1; low < w; low++ {
			for _, x := range samples(w) {
				a, b := must(bits.Extract(w, x, low, w-low)), must(bits.Extract(w, x, 0, low))
				if y := must(bits.Concat(w-low, a, low, b)); y != x {
					t.Fatalf("%d:%x cut at %d: %x", w, x, low, y)
				}
			}
			for _, a := range samples(w - low) {
				for _, b := range samples(low) {
					x := must(bits.Concat(w-low, a, low, b))
					if must(bits.Extract(w, x, low, w-low)) != a || must(bits.Extract(w, x, 0, low)) != b {
						t.Fatalf("%d:%x and %d:%x", w-low, a, low, b)
					}
				}
			}
		}
	}
}

func TestP1_6SignedAndOf(t *testing.T) {
	for w := 1; w <= 64; w++ {
		for _, x := range samples(w) {
			if y := must(bits.Of(w, must(bits.Signed(w, x)))); y != x {
				t.Fatalf("%d:%x: %x", w, x, y)
			}
		}
	}
}

func TestP1_6Texts(t *testing.T) {
	seen := map[string]bool{}
	for w := 1; w <= 64; w++ {
		for _, x := range samples(w) {
			s := must(bits.Text(w, x))
			if seen[s] {
				t.Fatalf("two bit vectors with the text %q", s)
			}
			seen[s] = true
			if v, y, e := bits.Parse(s); e != api.OK || v != w || y != x {
				t.Fatalf("%q: %d %x %d", s, v, y, e)
			}
		}
	}
}

// TestP1NoPanics calls everything with arguments of all sorts: there is no panic (R7), and no value beside an error (R1), and all values fit their widths.
func TestP1NoPanics(t *testing.T) {
	numbers := []int{math.MinInt, math.MinInt + 1, -65, -64, -1, 0, 1, 7, 8, 31, 32, 33, 63, 64, 65, 255, 1 << 32, math.MaxInt - 1, math.MaxInt}
	values := []uint64{0, 1, 2, 255, 256, 1<<32 - 1, 1 << 63, math.MaxUint64}
	see := func(what string, width int, x uint64, e api.Errno) {
		if e != api.OK && x != 0 || e == api.OK && !bits.Ok(width, x) {
			t.Errorf("%s of width %d: %x %d", what, width, x, e)
		}
	}
	for _, w := range numbers {
		bits.Mask(w)
		for _, a := range values {
			bits.Ok(w, a)
			bits.Signed(w, a)
			bits.Text(w, a)
			x, e := bits.Of(w, int64(a))
			see("of", w, x, e)
			for _, n := range numbers {
				x, e = bits.Extend(w, a, n, true)
				see("extend", n, x, e)
				for _, m := range numbers {
					x, e = bits.Extract(w, a, n, m)
					see("extract", m, x, e)
				}
				for _, b := range values {
					x, e = bits.Concat(w, a, n, b)
					see("concat", w+n, x, e)
				}
			}
			for k := range 256 {
				x, e = bits.Unary(uint8(k), w, a)
				see("unary", w, x, e)
				for _, b := range values {
					x, e = bits.Binary(uint8(k), w, a, b)
					see("binary", w, x, e)
				}
			}
		}
	}
}
