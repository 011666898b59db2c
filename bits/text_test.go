package bits_test

import (
	"fmt"
	"strings"
	"testing"

	"retarget/api"
	"retarget/bits"
)

func TestP1_5Text(t *testing.T) {
	for w := 1; w <= 64; w++ {
		digits := 0
		for 4*digits < w {
			digits++
		}
		for _, x := range samples(w) {
			want := fmt.Sprintf("%d:%0*x", w, digits, x)
			if s, e := bits.Text(w, x); e != api.OK || s != want {
				t.Errorf("text of %d:%x: %q %d, not %q", w, x, s, e, want)
			}
			if v, y, e := bits.Parse(want); e != api.OK || v != w || y != x {
				t.Errorf("parse %q: %d %x %d", want, v, y, e)
			}
		}
		if s, e := bits.Text(w, mask(w)+1); w < 64 && (s != "" || e != api.ErrBad) {
			t.Errorf("text of %d: %q %d", w, s, e)
		}
	}
	for _, w := range noWidths {
		if s, e := bits.Text(w, ^uint64(0)); s != "" || e != api.ErrWidth {
			t.Errorf("text of %d: %q %d", w, s, e)
		}
	}
}

func TestP1_5Examples(t *testing.T) {
	for _, c := range []struct {
		w    int
		x    uint64
		text string
	}{{8, 15, "8:0f"}, {9, 15, "9:00f"}, {1, 0, "1:0"}, {1, 1, "1:1"}, {4, 10, "4:a"}, {5, 31, "5:1f"}, {64, 0xfedcba9876543210, "64:fedcba9876543210"}} {
		if s, e := bits.Text(c.w, c.x); e != api.OK || s != c.text {
			t.Errorf("%v: %q %d", c, s, e)
		}
		if w, x, e := bits.Parse(c.text); e != api.OK || w != c.w || x != c.x {
			t.Errorf("%v: %d %x %d", c, w, x, e)
		}
	}
}

func TestP1_5NoTexts(t *testing.T) {
	for _, s := range []string{
		"", ":", "8", "8:", ":0f", "0f", "8:f", "8:00f", "8:000f", "9:0f", "9:0000f", "1:", "1:00", "4:0a", "5:1", "64:1", "64:000000000000001", "64:00000000000000001", "64:10000000000000000",
		"1:2", "1:f", "2:4", "5:20", "5:ff", "9:200", "9:fff", "63:8000000000000000", "63:ffffffffffffffff",
		"8:0F", "8:0A", "8:0g", "8:-f", "8:+f", "8:_f", "8:0_f", "8: f", "8:0f ", " 8:0f", "8 :0f", "8:0f\n", "8:0x", "8:0xf", "8:0x0f", "8:f\x00", "8:０f", "8:é",
		"08:0f", "+8:0f", "-8:0f", "0:", "0:0", "00:0", "65:00000000000000000", "65:0000000000000000", "66:0", "100:0000000000000000000000000", "1_6:0000", "0x8:0f", "8.0:0f", "1e1:000", "a:0", "８:0f",
		"8:0f:", "8:0f:0f", "8::0f", "8:0:f", "::", "18446744073709551624:0f", "4294967304:0f", "9999999999999999999999:0", "8:" + strings.Repeat("0", 5000) + "0f", strings.Repeat("0", 5000) + "8:0f",
	} {
		if w, x, e := bits.Parse(s); w != 0 || x != 0 || e != api.ErrForm {
			t.Errorf("parse %q: %d %x %d", s, w, x, e)
		}
	}
}

// TestP1_5NoOtherTexts changes texts in one byte: what is still read is the text of what is read.
func TestP1_5NoOtherTexts(t *testing.T) {
	for _, s := range []string{"1:1", "8:0f", "9:00f", "13:1abc", "32:deadbeef", "64:8000000000000001"} {
		for i := range len(s) {
			for c := range 256 {
				changed := s[:i] + string([]byte{byte(c)}) + s[i+1:]
				for _, u := range []string{changed, s[:i] + s[i+1:], s[:i] + string([]byte{byte(c)}) + s[i:]} {
					w, x, e := bits.Parse(u)
					if e == api.OK {
						if back, f := bits.Text(w, x); f != api.OK || back != u {
							t.Fatalf("parse %q: %d %x, whose text is %q", u, w, x, back)
						}
					} else if w != 0 || x != 0 || e != api.ErrForm {
						t.Fatalf("parse %q: %d %x %d", u, w, x, e)
					}
				}
			}
		}
	}
}
