package term_test

import (
	"strings"
	"testing"

	"retarget/api"
	"retarget/term"
)

func TestP2_6TextOfEachKind(t *testing.T) {
	kinds := map[uint8]bool{}
	for want, x := range examples() {
		kinds[x.Kind] = true
		if s, e := term.Text(x); e != api.OK || s != want {
			t.Errorf("%s: %q %d", want, s, e)
		}
		if y, e := term.Parse(want); e != api.OK || !term.Same(x, y) {
			t.Errorf("%s: %v %d", want, y, e)
		}
	}
	if len(kinds) != 24 {
		t.Error(len(kinds))
	}
}

func TestP2_6Texts(t *testing.T) {
	long := strings.Repeat("x", 24)
	for _, s := range []string{
		"1:0", "64:ffffffffffffffff", "a:1", "a:64", long + ":8", "r." + long + ":8", "add:8", "r.add:8", "load:8",
		"(add a:8 8:0f)", "(add add:8 (sub sub:8 mul:8))", "(extract 0 1 a:1)", "(extract 63 1 a:64)", "(extract 10 20 a:64)", "(zext 64 a:64)", "(sext 10 a:9)", "(load 8 a:1)", "(load 64 (load 64 a:64))",
		"(ite (slt a:8 8:00) (neg a:8) a:8)", "(concat (concat a:1 b:2) (concat c:3 d:58))", "(extract 0 8 (concat a:32 b:32))", "(eq (ult a:3 b:3) (slt c:64 d:64))",
	} {
		x, e := term.Parse(s)
		if e != api.OK || term.Check(x) != api.OK {
			t.Errorf("%q: %v %d", s, x, e)
		}
		if u, e := term.Text(x); e != api.OK || u != s {
			t.Errorf("%q: %q %d", s, u, e)
		}
	}
}

func TestP2_6TextErrors(t *testing.T) {
	for _, c := range []struct {
		x api.Term
		e api.Errno
	}{{api.Term{}, api.ErrBad}, {number(8, 256), api.ErrBad}, {variable("", 8), api.ErrBad}, {op(api.TermNot, 9, variable("a", 8)), api.ErrBad}, {chain(61), api.ErrMany}, {wide(401), api.ErrMany}, {doubled(60), api.ErrMany}, {endless(1), api.ErrMany}, {op(api.TermConcat, 24, variable("a", 8), variable("a", 16)), api.ErrWidth}} {
		if s, e := term.Text(c.x); s != "" || e != c.e {
			t.Errorf("%q %d, not %d", s, e, c.e)
		}
	}
}

func TestP2_6NoTexts(t *testing.T) {
	for _, s := range []string{
		"", " ", "(", ")", "()", "( )", "((", "))", "(())", "(a:8)", "((a:8))", "(8:0f)", "\x00", "a", "8", ":", "a:", ":8", "8:", "a:8:", "a:8:9", "a::8", "8:0f:", "a b", "a:8 b:8", "a:8 ", " a:8", "a:8\n", "a:8)", "(a:8",
		// Bit vectors and variables.
		"8:f", "8:00f", "8:0F", "8:0x", "08:0f", "0:", "0:0", "65:00000000000000000", "4:1f", "5:2f", "+8:0f", "a:0", "a:65", "a:-8", "a:+8", "a:08", "a:8.0", "a:0x8", "a:1_0", "a:", "a:a", "a:18446744073709551624", "a:99999999999999999999999", "_a:8", "9a:8", "r.:8", ".a:8", "r.r.a:8", "R.a:8", "a.b:8", "r..a:8", "r.9:8", "é:8", "a-b:8", "a:８", "a\x00:8",
		strings.Repeat("x", 25) + ":8", "r." + strings.Repeat("x", 25) + ":8",
		// Spaces.
		"(add  a:8 8:0f)", "(add a:8  8:0f)", "( add a:8 8:0f)", "(add a:8 8:0f )", " (add a:8 8:0f)", "(add a:8 8:0f) ", "(add\ta:8 8:0f)", "(add a:8\n8:0f)", "(add a:88:0f)", "(adda:8 8:0f)", "(not(not a:8))", "(add (not a:8)(not a:8))", "(extract 0  1 a:8)", "(extract  0 1 a:8)", "(extract 01 a:8)", "(zext16 a:8)", "(zext  16 a:8)", "(zext 16a:8)", "(not )", "(not  a:8)", "(add a:8 8:0f)\x00", "(add\u00a0a:8 8:0f)",
		// Parentheses.
		"(add a:8 8:0f", "add a:8 8:0f", "add a:8 8:0f)", "(add a:8 8:0f))", "((add a:8 8:0f))", "(add (a:8) 8:0f)", "(add a:8) 8:0f", "(not (not a:8)", "(not not a:8)", "(not (not a:8)))", "[add a:8 8:0f]", "(add a:8 8:0f)(add a:8 8:0f)", "(add a:8 8:0f) (not a:8)", "()not a:8)",
		// Words and the number of parts.
		"(Add a:8 8:0f)", "(ADD a:8 8:0f)", "(plus a:8 8:0f)", "(ad a:8 8:0f)", "(addd a:8 8:0f)", "( a:8)", "(const 8:0f)", "(var a:8)", "(1 a:8)", "(sdiv a:8 a:8)", "(ule a:8 a:8)", "(add)", "(add )", "(add a:8)", "(add a:8 a:8 a:8)", "(not)", "(not a:8 a:8)", "(ite c:1 a:8)", "(ite c:1 a:8 a:8 a:8)", "(concat a:8)", "(concat a:8 a:8 a:8)", "(extract 0 1)", "(extract 0 1 a:8 a:8)", "(zext 8)", "(load 8 a:8 a:8)",
		// Numbers.
		"(extract 0 a:8)", "(extract a:8)", "(extract 0 1 2 a:8)", "(extract 00 1 a:8)", "(extract 0 01 a:8)", "(extract +0 1 a:8)", "(extract -0 1 a:8)", "(extract -1 1 a:8)", "(extract 0 +1 a:8)", "(extract 0x0 1 a:8)", "(extract 0 8:01 a:8)", "(extract a 1 a:8)", "(extract 0 0 a:8)", "(extract 0 -1 a:8)", "(extract 1 8 a:8)", "(extract 8 1 a:8)", "(extract 0 9 a:8)", "(extract 9223372036854775807 1 a:8)", "(extract 18446744073709551616 1 a:8)", "(extract 0 18446744073709551617 a:8)", "(extract (not a:8) 1 a:8)", "(extract () 1 a:8)",
		"(zext a:8)", "(zext 08 a:8)", "(zext 016 a:8)", "(zext 7 a:8)", "(zext 65 a:8)", "(zext 0 a:8)", "(zext -16 a:8)", "(zext +16 a:8)", "(sext 7 a:8)", "(sext 16 16 a:8)", "(sext 16.0 a:8)", "(load a:8)", "(load 7 a:8)", "(load 24 a:8)", "(load 128 a:8)", "(load 0 a:8)", "(load 08 a:8)", "(not 8 a:8)", "(add 8 a:8 a:8)", "(concat 16 a:8 a:8)", "(zext 1_6 a:8)",
		// Widths.
		"(add a:8 b:9)", "(add a:8 9:00f)", "(eq a:8 b:9)", "(ite c:8 a:8 a:8)", "(ite c:1 a:8 b:9)", "(concat a:64 b:1)", "(concat a:32 b:33)", "(concat a:9223372036854775807 b:9223372036854775807)", "(not a:0)", "(not a:65)", "(add a:8 (zext 16 b:8))", "(concat a:8 a:16)", "(eq (eq a:8 a:8) (eq a:9 a:9))",
	} {
		x, e := term.Parse(s)
		if e != api.ErrForm {
			t.Errorf("%q: %v %d", s, x, e)
		}
		zero(t, x)
	}
}

// nested returns a text of this depth.
func nested(depth int) string {
	return strings.Repeat("(not ", depth-1) + "a:8" + strings.Repeat(")", depth-1)
}

func TestP2_6LargeTexts(t *testing.T) {
	full, e := term.Text(wide(399))
	if e != api.OK {
		t.Fatal(e)
	}
	for _, c := range []struct {
		what, s string
		e       api.Errno
	}{
		{"depth 60", nested(60), api.OK}, {"depth 61", nested(61), api.ErrForm}, {"depth 100000", nested(100000), api.ErrForm},
		{"size 399", full, api.OK}, {"size 400", "(not " + full + ")", api.OK}, {"size 401", "(not (not " + full + "))", api.ErrForm}, {"size 799", "(add " + full + " " + full + ")", api.ErrForm},
		{"only beginnings", strings.Repeat("(", 1000000), api.ErrForm}, {"only words", strings.Repeat("(not ", 10000000), api.ErrForm}, {"only ends", strings.Repeat(")", 1000000), api.ErrForm}, {"only spaces", strings.Repeat(" ", 1000000), api.ErrForm},
		{"one word", strings.Repeat("a", 1000000), api.ErrForm}, {"one number", strings.Repeat("8", 1000000), api.ErrForm}, {"many parts", "(add" + strings.Repeat(" a:8", 100000) + ")", api.ErrForm}, {"much behind it", "a:8" + strings.Repeat(" ", 100000), api.ErrForm},
	} {
		x, e := term.Parse(c.s)
		if e != c.e {
			t.Errorf("%s: %d", c.what, e)
		}
		if e != api.OK {
			zero(t, x)
		} else if s, f := term.Text(x); f != api.OK || s != c.s {
			t.Errorf("%s: another text", c.what)
		}
	}
}

func TestP2_7TextsAndTerms(t *testing.T) {
	m := newMaker(10)
	seen := map[string]api.Term{}
	for range 5000 {
		x := m.valid()
		s, e := term.Text(x)
		if e != api.OK {
			t.Fatal(x, e)
		}
		if y, e := term.Parse(s); e != api.OK || !term.Same(x, y) {
			t.Fatalf("%s: %v %d", s, y, e)
		}
		if y, met := seen[s]; met && !term.Same(x, y) {
			t.Fatalf("two terms with the text %s", s)
		}
		seen[s] = x
	}
}

// TestP2_6NoOtherTexts changes texts in one place: what is still read is valid and has the text that was read.
func TestP2_6NoOtherTexts(t *testing.T) {
	for s := range examples() {
		for i := range len(s) {
			for c := range 128 {
				one := string([]byte{byte(c)})
				for _, u := range []string{s[:i] + one + s[i+1:], s[:i] + s[i+1:], s[:i] + one + s[i:], s + one} {
					x, e := term.Parse(u)
					if e == api.OK {
						if back, f := term.Text(x); f != api.OK || back != u || term.Check(x) != api.OK {
							t.Fatalf("%q: %v, whose text is %q", u, x, back)
						}
					} else if e != api.ErrForm {
						t.Fatalf("%q: %d", u, e)
					} else {
						zero(t, x)
					}
				}
			}
		}
	}
}
