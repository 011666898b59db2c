package simplify_test

import (
	"testing"

	"retarget/api"
	"retarget/bits"
	"retarget/term"
)

// TestP3_1Rules has each rule of each kind.
func TestP3_1Rules(t *testing.T) {
	for _, c := range [][2]string{
		// terms without parts
		{"8:0f", "8:0f"}, {"1:0", "1:0"}, {"64:0000000000000000", "64:0000000000000000"}, {"a:8", "a:8"}, {"r.a:1", "r.a:1"},
		// TermConsts only
		{"(not 8:0f)", "8:f0"}, {"(neg 8:01)", "8:ff"}, {"(add 8:c8 8:64)", "8:2c"}, {"(sub 8:01 8:02)", "8:ff"}, {"(mul 8:10 8:11)", "8:10"},
		{"(and 8:0f 8:3c)", "8:0c"}, {"(or 8:0f 8:3c)", "8:3f"}, {"(xor 8:0f 8:3c)", "8:33"}, {"(shl 8:81 8:01)", "8:02"}, {"(shr 8:81 8:01)", "8:40"}, {"(sar 8:81 8:01)", "8:c0"}, {"(sar 8:81 8:09)", "8:ff"}, {"(sar 8:71 8:ff)", "8:00"},
		{"(udiv 8:07 8:02)", "8:03"}, {"(udiv 8:07 8:00)", "8:ff"}, {"(urem 8:07 8:04)", "8:03"}, {"(urem 8:07 8:00)", "8:07"},
		{"(eq 8:07 8:07)", "1:1"}, {"(eq 8:07 8:06)", "1:0"}, {"(ult 8:07 8:80)", "1:1"}, {"(ult 8:80 8:07)", "1:0"}, {"(slt 8:07 8:80)", "1:0"}, {"(slt 8:80 8:07)", "1:1"},
		{"(ite 1:1 8:07 8:06)", "8:07"}, {"(ite 1:0 8:07 8:06)", "8:06"}, {"(concat 4:a 8:5b)", "12:a5b"}, {"(extract 4 4 8:5b)", "4:5"}, {"(zext 12 8:80)", "12:080"}, {"(sext 12 8:80)", "12:f80"},
		{"(ult 64:0000000000000000 64:ffffffffffffffff)", "1:1"}, {"(mul 64:ffffffffffffffff 64:ffffffffffffffff)", "64:0000000000000001"},
		// a term of the same kind
		{"(not (not a:8))", "a:8"}, {"(neg (neg a:8))", "a:8"}, {"(not (not (not a:8)))", "(not a:8)"}, {"(neg (neg (neg (add a:8 b:8))))", "(neg (add a:8 b:8))"},
		// 0 in sums and differences
		{"(add 8:00 a:8)", "a:8"}, {"(add a:8 8:00)", "a:8"}, {"(sub a:8 8:00)", "a:8"}, {"(sub a:8 a:8)", "8:00"}, {"(sub (not a:8) (not a:8))", "8:00"},
		// products
		{"(mul 8:00 a:8)", "8:00"}, {"(mul a:8 8:00)", "8:00"}, {"(mul 8:01 a:8)", "a:8"}, {"(mul a:8 8:01)", "a:8"},
		// bit by bit
		{"(and 8:00 a:8)", "8:00"}, {"(and a:8 8:00)", "8:00"}, {"(and 8:ff a:8)", "a:8"}, {"(and a:8 8:ff)", "a:8"}, {"(and a:8 a:8)", "a:8"},
		{"(or 8:ff a:8)", "8:ff"}, {"(or a:8 8:ff)", "8:ff"}, {"(or 8:00 a:8)", "a:8"}, {"(or a:8 8:00)", "a:8"}, {"(or a:8 a:8)", "a:8"},
		{"(xor 8:00 a:8)", "a:8"}, {"(xor a:8 8:00)", "a:8"}, {"(xor a:8 a:8)", "8:00"},
		{"(and 64:ffffffffffffffff a:64)", "a:64"}, {"(or a:64 64:ffffffffffffffff)", "64:ffffffffffffffff"}, {"(and a:5 5:1f)", "a:5"}, {"(or 5:1f a:5)", "5:1f"},
		// shifts
		{"(shl a:8 8:00)", "a:8"}, {"(shl a:8 8:08)", "8:00"}, {"(shl a:8 8:ff)", "8:00"}, {"(shl 8:00 a:8)", "8:00"},
		{"(shr a:8 8:00)", "a:8"}, {"(shr a:8 8:08)", "8:00"}, {"(shr a:8 8:ff)", "8:00"}, {"(shr 8:00 a:8)", "8:00"},
		{"(sar a:8 8:00)", "a:8"}, {"(sar 8:00 a:8)", "8:00"},
		// quotients and remainders
		{"(udiv a:8 8:01)", "a:8"}, {"(urem a:8 8:01)", "8:00"},
		// comparisons, with results of the width 1
		{"(eq a:8 a:8)", "1:1"}, {"(ult a:8 a:8)", "1:0"}, {"(ult a:8 8:00)", "1:0"}, {"(slt a:8 a:8)", "1:0"}, {"(eq (load 8 a:8) (load 8 a:8))", "1:1"},
		// choices
		{"(ite 1:1 a:8 b:8)", "a:8"}, {"(ite 1:0 a:8 b:8)", "b:8"}, {"(ite c:1 a:8 a:8)", "a:8"}, {"(ite 1:1 8:01 b:8)", "8:01"}, {"(ite 1:0 a:8 8:01)", "8:01"}, {"(ite c:1 8:01 8:01)", "8:01"},
		// concatenations
		{"(concat 8:00 a:8)", "(zext 16 a:8)"}, {"(concat 1:0 a:8)", "(zext 9 a:8)"}, {"(concat 8:00 (zext 8 c:4))", "(zext 16 c:4)"}, {"(concat 8:00 (sext 8 c:4))", "(zext 16 (sext 8 c:4))"}, {"(concat 63:0000000000000000 c:1)", "(zext 64 c:1)"},
		// extracts
		{"(extract 0 8 a:8)", "a:8"}, {"(extract 2 3 (extract 1 6 a:8))", "(extract 3 3 a:8)"}, {"(extract 0 3 (extract 0 6 a:8))", "(extract 0 3 a:8)"}, {"(extract 5 1 (extract 1 6 a:8))", "(extract 6 1 a:8)"},
		// extensions
		{"(zext 8 a:8)", "a:8"}, {"(sext 8 a:8)", "a:8"}, {"(zext 16 (zext 9 a:8))", "(zext 16 a:8)"}, {"(sext 16 (sext 9 a:8))", "(sext 16 a:8)"},
		// the examples of the chapter
		{"(add (mul a:8 8:01) (sub b:8 b:8))", "a:8"},
	} {
		becomes(t, c[0], c[1])
	}
}

// TestP3_1NoRule has terms of each kind that no rule changes, though they resemble those that one does.
func TestP3_1NoRule(t *testing.T) {
	for _, s := range []string{
		"(not a:8)", "(neg a:8)", "(not (neg a:8))", "(neg (not a:8))", "(not (neg (not a:8)))",
		"(add a:8 b:8)", "(add a:8 a:8)", "(add a:8 8:01)", "(add 8:ff a:8)", "(add a:8 (neg a:8))",
		"(sub a:8 b:8)", "(sub 8:00 a:8)", "(sub a:8 8:01)", "(sub (add a:8 b:8) (add b:8 a:8))", "(sub a:8 (neg (not a:8)))",
		"(mul a:8 b:8)", "(mul a:8 8:02)", "(mul 8:ff a:8)", "(mul a:8 8:ff)", "(mul a:8 a:8)",
		"(and a:8 b:8)", "(and a:8 8:01)", "(and 8:7f a:8)", "(and a:8 (not a:8))", "(or a:8 b:8)", "(or a:8 8:01)", "(or 8:7f a:8)", "(or a:8 (not a:8))", "(xor a:8 b:8)", "(xor a:8 8:01)", "(xor 8:ff a:8)", "(xor a:8 8:ff)",
		"(shl a:8 b:8)", "(shl a:8 8:07)", "(shl a:8 a:8)", "(shl 8:01 a:8)", "(shr a:8 b:8)", "(shr a:8 8:07)", "(shr a:8 a:8)", "(shr 8:01 a:8)",
		"(sar a:8 b:8)", "(sar a:8 8:07)", "(sar a:8 8:08)", "(sar a:8 8:09)", "(sar a:8 8:ff)", "(sar 8:ff a:8)", "(sar a:8 a:8)",
		"(udiv a:8 b:8)", "(udiv a:8 a:8)", "(udiv 8:00 a:8)", "(udiv a:8 8:00)", "(udiv 8:01 a:8)", "(udiv a:8 8:ff)",
		"(urem a:8 b:8)", "(urem a:8 a:8)", "(urem 8:00 a:8)", "(urem a:8 8:00)", "(urem 8:01 a:8)", "(urem a:8 8:ff)",
		"(eq a:8 b:8)", "(eq a:8 8:00)", "(eq 8:00 a:8)", "(eq a:1 1:1)", "(eq (add a:8 b:8) (add b:8 a:8))",
		"(ult a:8 b:8)", "(ult 8:00 a:8)", "(ult a:8 8:01)", "(ult 8:ff a:8)", "(ult a:8 8:ff)", "(slt a:8 b:8)", "(slt 8:00 a:8)", "(slt a:8 8:00)", "(slt a:8 8:80)", "(slt 8:7f a:8)",
		"(ite c:1 a:8 b:8)", "(ite c:1 8:01 8:00)", "(ite c:1 1:1 1:0)", "(ite c:1 c:1 a:1)", "(ite c:1 (not a:8) a:8)", "(ite (not c:1) a:8 b:8)",
		"(concat a:8 b:8)", "(concat a:8 8:00)", "(concat 8:01 a:8)", "(concat a:8 a:8)", "(concat a:8 (zext 8 b:4))", "(concat 1:1 (zext 8 a:4))", "(concat (extract 4 4 a:8) (extract 0 4 a:8))",
		"(extract 0 7 a:8)", "(extract 1 7 a:8)", "(extract 7 1 a:8)", "(extract 0 8 (zext 16 a:8))", "(extract 8 8 (zext 16 a:8))", "(extract 0 8 (concat a:8 b:8))", "(extract 0 4 (add a:8 b:8))",
		"(zext 9 a:8)", "(sext 9 a:8)", "(zext 64 a:1)", "(zext 16 (sext 9 a:8))", "(sext 16 (zext 9 a:8))", "(zext 16 (extract 0 8 a:16))", "(sext 16 (extract 8 8 a:16))",
		"(load 8 a:8)", "(load 16 (load 16 a:8))",
	} {
		becomes(t, s, s)
	}
}

// TestP3_1PartsFirst has rules that apply only when the parts are simplified.
func TestP3_1PartsFirst(t *testing.T) {
	for _, c := range [][2]string{
		{"(sub (add a:8 8:00) a:8)", "8:00"}, {"(sub a:8 (mul 8:01 a:8))", "8:00"}, {"(add (sub a:8 a:8) b:8)", "b:8"}, {"(add b:8 (xor a:8 a:8))", "b:8"},
		{"(not (add (not a:8) 8:00))", "a:8"}, {"(neg (sext 8 (neg a:8)))", "a:8"}, {"(not (extract 0 8 (not (or a:8 a:8))))", "a:8"},
		{"(mul (udiv 8:09 8:09) a:8)", "a:8"}, {"(mul a:8 (urem b:8 8:01))", "8:00"}, {"(and a:8 (not 8:00))", "a:8"}, {"(or (not 8:00) a:8)", "8:ff"},
		{"(shl a:8 (add 8:04 8:04))", "8:00"}, {"(shr a:8 (sub b:8 b:8))", "a:8"}, {"(sar (and a:8 8:00) b:8)", "8:00"},
		{"(eq (ite 1:1 a:8 b:8) (ite 1:0 b:8 a:8))", "1:1"}, {"(ult a:8 (concat 4:0 4:0))", "1:0"}, {"(slt (add a:8 8:00) (sub a:8 8:00))", "1:0"},
		{"(ite (eq a:8 a:8) b:8 c:8)", "b:8"}, {"(ite (ult a:8 8:00) b:8 c:8)", "c:8"}, {"(ite d:1 (not (not b:8)) (add b:8 8:00))", "b:8"},
		{"(concat (sub a:8 a:8) b:8)", "(zext 16 b:8)"}, {"(concat (sub a:8 a:8) (concat 4:0 b:4))", "(zext 16 b:4)"}, {"(concat 8:00 (concat 8:00 8:01))", "24:000001"},
		{"(extract 1 2 (add (extract 1 4 a:8) 4:0))", "(extract 2 2 a:8)"}, {"(extract 1 4 (zext 8 (extract 2 8 a:16)))", "(extract 3 4 a:16)"}, {"(zext 16 (concat 1:0 a:8))", "(zext 16 a:8)"}, {"(sext 16 (sext 9 (zext 8 a:8)))", "(sext 16 a:8)"},
		{"(load 8 (add a:8 8:00))", "(load 8 a:8)"}, {"(load 8 (add 8:01 8:02))", "(load 8 8:03)"},
		{"(udiv a:8 (shr 8:02 8:01))", "a:8"}, {"(urem (not (not a:8)) b:8)", "(urem a:8 b:8)"}, {"(add (add a:8 8:00) (mul b:8 8:01))", "(add a:8 b:8)"},
		{"(sub (sub a:8 a:8) (sub b:8 8:00))", "(sub 8:00 b:8)"}, {"(eq (sub a:8 a:8) b:8)", "(eq 8:00 b:8)"},
	} {
		becomes(t, c[0], c[1])
	}
}

// TestP3_1SeveralRules has terms to which more than one rule applies: the first one is used, and it once.
func TestP3_1SeveralRules(t *testing.T) {
	for _, c := range [][2]string{
		{"(add 8:00 8:00)", "8:00"}, {"(sub 8:00 8:00)", "8:00"}, {"(sub 8:07 8:00)", "8:07"}, {"(sub 8:07 8:07)", "8:00"}, {"(mul 8:00 8:01)", "8:00"}, {"(mul 8:01 8:00)", "8:00"}, {"(mul 8:01 8:01)", "8:01"},
		{"(and 8:00 8:ff)", "8:00"}, {"(and 8:ff 8:00)", "8:00"}, {"(and 8:ff 8:ff)", "8:ff"}, {"(or 8:ff 8:00)", "8:ff"}, {"(or 8:00 8:ff)", "8:ff"}, {"(or 8:00 8:00)", "8:00"}, {"(xor 8:00 8:00)", "8:00"}, {"(xor 8:ff 8:ff)", "8:00"},
		{"(shl 8:01 8:08)", "8:00"}, {"(shl 8:00 8:08)", "8:00"}, {"(shr 8:ff 8:00)", "8:ff"}, {"(sar 8:00 8:00)", "8:00"}, {"(sar 8:80 8:00)", "8:80"},
		{"(udiv 8:07 8:01)", "8:07"}, {"(urem 8:07 8:01)", "8:00"}, {"(ult 8:00 8:00)", "1:0"}, {"(eq 8:00 8:00)", "1:1"},
		{"(ite 1:1 a:8 a:8)", "a:8"}, {"(ite 1:0 a:8 a:8)", "a:8"}, {"(ite 1:1 8:05 8:06)", "8:05"}, {"(ite 1:0 a:8 (not a:8))", "(not a:8)"}, {"(ite 1:1 (not a:8) a:8)", "(not a:8)"},
		{"(concat 4:0 4:0)", "8:00"}, {"(concat 4:0 4:5)", "8:05"}, {"(extract 0 8 (extract 3 8 a:16))", "(extract 3 8 a:16)"}, {"(extract 0 3 8:ff)", "3:7"}, {"(extract 0 8 8:ff)", "8:ff"},
		{"(zext 8 8:80)", "8:80"}, {"(sext 16 (sext 16 a:8))", "(sext 16 a:8)"}, {"(zext 16 (zext 16 a:8))", "(zext 16 a:8)"}, {"(zext 9 (zext 9 9:100))", "9:100"},
		{"(neg (neg 8:01))", "8:01"}, {"(not (not 8:01))", "8:01"},
	} {
		becomes(t, c[0], c[1])
	}
}

// TestP3_1WidthOne has the width in which the constants 1 and ones are the same, and a shift by 1 is too far.
func TestP3_1WidthOne(t *testing.T) {
	for _, c := range [][2]string{
		{"(mul 1:1 a:1)", "a:1"}, {"(mul a:1 1:1)", "a:1"}, {"(mul a:1 1:0)", "1:0"}, {"(and 1:1 a:1)", "a:1"}, {"(and a:1 1:1)", "a:1"}, {"(and 1:0 a:1)", "1:0"}, {"(or 1:1 a:1)", "1:1"}, {"(or a:1 1:1)", "1:1"}, {"(or a:1 1:0)", "a:1"},
		{"(shl a:1 1:1)", "1:0"}, {"(shr a:1 1:1)", "1:0"}, {"(shl a:1 1:0)", "a:1"}, {"(sar a:1 1:1)", "(sar a:1 1:1)"}, {"(sar a:1 1:0)", "a:1"}, {"(udiv a:1 1:1)", "a:1"}, {"(urem a:1 1:1)", "1:0"},
		{"(eq a:1 a:1)", "1:1"}, {"(eq a:1 1:1)", "(eq a:1 1:1)"}, {"(ult a:1 1:0)", "1:0"}, {"(ult a:1 a:1)", "1:0"}, {"(slt a:1 1:0)", "(slt a:1 1:0)"}, {"(slt 1:1 1:0)", "1:1"}, {"(xor a:1 1:1)", "(xor a:1 1:1)"}, {"(add a:1 1:1)", "(add a:1 1:1)"}, {"(sub a:1 a:1)", "1:0"}, {"(add 1:1 1:1)", "1:0"},
		{"(ite c:1 1:1 1:1)", "1:1"}, {"(ite 1:1 a:1 1:0)", "a:1"}, {"(concat 1:0 a:1)", "(zext 2 a:1)"}, {"(concat 1:1 a:1)", "(concat 1:1 a:1)"}, {"(extract 0 1 a:1)", "a:1"}, {"(sext 1 a:1)", "a:1"}, {"(not (not a:1))", "a:1"}, {"(neg (neg a:1))", "a:1"}, {"(neg 1:1)", "1:1"}, {"(not 1:1)", "1:0"},
		// In the next width they are not the same.
		{"(mul 2:3 a:2)", "(mul 2:3 a:2)"}, {"(mul 2:1 a:2)", "a:2"}, {"(and 2:1 a:2)", "(and 2:1 a:2)"}, {"(and 2:3 a:2)", "a:2"}, {"(or a:2 2:1)", "(or a:2 2:1)"}, {"(or a:2 2:3)", "2:3"}, {"(udiv a:2 2:3)", "(udiv a:2 2:3)"}, {"(shl a:2 2:1)", "(shl a:2 2:1)"},
	} {
		becomes(t, c[0], c[1])
	}
}

// TestP3_1ConstantsOfEachWidth has 0, 1, ones and others on each side, in each width.
func TestP3_1ConstantsOfEachWidth(t *testing.T) {
	for w := 1; w <= 64; w++ {
		for kind := api.TermAdd; kind <= api.TermSlt; kind++ {
			wide := w
			if kind >= api.TermEq {
				wide = 1
			}
			for _, c := range []uint64{0, 1, 2, uint64(w) - 1, uint64(w), uint64(w) + 1, bits.Mask(w) >> 1, bits.Mask(w) - 1, bits.Mask(w)} {
				a, n := variable("a", w), number(w, c&bits.Mask(w))
				for _, x := range []api.Term{op(kind, wide, a, n), op(kind, wide, n, a), op(kind, wide, a, a), op(kind, wide, n, n)} {
					if y, want := simple(x), reference(x); !term.Same(y, want) {
						t.Errorf("%s becomes %s, not %s", text(x), text(y), text(want))
					}
				}
			}
		}
	}
}

// TestP3_1ShiftsByConstants shifts by less than the width, by the width, and by more.
func TestP3_1ShiftsByConstants(t *testing.T) {
	for w := 1; w <= 64; w++ {
		a := variable("a", w)
		for kind := api.TermShl; kind <= api.TermSar; kind++ {
			for _, by := range []uint64{0, 1, uint64(w) - 1, uint64(w), uint64(w) + 1, 64, 65, 1 << 32, 1 << 63, bits.Mask(w)} {
				if by > bits.Mask(w) {
					continue
				}
				x := op(kind, w, a, number(w, by))
				want := x
				if by == 0 {
					want = a
				} else if by >= uint64(w) && kind != api.TermSar {
					want = number(w, 0)
				}
				if y := simple(x); !term.Same(y, want) {
					t.Errorf("%s becomes %s, not %s", text(x), text(y), text(want))
				}
			}
		}
	}
}

func TestP3_1ChainsOfExtracts(t *testing.T) {
	for _, c := range [][2]string{
		{"(extract 3 2 (extract 2 6 (extract 4 9 a:16)))", "(extract 9 2 a:16)"}, {"(extract 1 1 (extract 1 2 (extract 1 3 (extract 1 4 (extract 1 5 a:8)))))", "(extract 5 1 a:8)"},
		{"(extract 1 2 (extract 0 4 (extract 4 4 a:8)))", "(extract 5 2 a:8)"}, {"(extract 0 4 (extract 4 4 a:8))", "(extract 4 4 a:8)"}, {"(extract 4 4 (extract 0 8 a:8))", "(extract 4 4 a:8)"},
		{"(extract 1 2 (not (extract 1 4 (extract 1 5 a:8))))", "(extract 1 2 (not (extract 2 4 a:8)))"}, {"(extract 8 8 (extract 16 16 (load 32 a:8)))", "(extract 24 8 (load 32 a:8))"}, {"(extract 1 3 (extract 2 5 8:b4))", "3:6"},
	} {
		becomes(t, c[0], c[1])
	}
	x := variable("a", 64)
	for low := 1; low < api.MaxDepth; low++ {
		x = extract(1, 64-low, x)
	}
	if y := simple(x); text(y) != "(extract 59 5 a:64)" {
		t.Error(text(y))
	}
}

func TestP3_1ChainsOfExtensions(t *testing.T) {
	for _, kind := range []uint8{api.TermZext, api.TermSext} {
		x := variable("a", 5)
		for w := 6; w < 5+api.MaxDepth; w++ {
			x = op(kind, w, x)
		}
		if y, want := simple(x), op(kind, 64, variable("a", 5)); !term.Same(y, want) {
			t.Error(text(y))
		}
		if y := simple(chain(59, kind, 8)); text(y) != "a:8" {
			t.Error(text(y))
		}
	}
	for _, c := range [][2]string{
		{"(zext 40 (zext 30 (sext 20 (sext 10 a:5))))", "(zext 40 (sext 20 a:5))"}, {"(sext 40 (zext 30 (zext 20 (sext 10 a:5))))", "(sext 40 (zext 30 (sext 10 a:5)))"}, {"(zext 40 (sext 30 (sext 30 (zext 30 a:5))))", "(zext 40 a:5)"},
		{"(zext 16 (zext 8 (zext 8 a:8)))", "(zext 16 a:8)"}, {"(sext 16 (not (sext 8 (sext 8 a:8))))", "(sext 16 (not a:8))"}, {"(sext 16 (sext 8 4:8))", "16:fff8"}, {"(zext 16 (sext 8 4:8))", "16:00f8"},
	} {
		becomes(t, c[0], c[1])
	}
}

func TestP3_1ChainsOfConcatenations(t *testing.T) {
	for _, c := range [][2]string{
		{"(concat 1:0 (concat 2:0 (concat 3:0 a:4)))", "(zext 10 a:4)"}, {"(concat (concat 1:0 2:0) (concat 3:0 a:4))", "(zext 10 a:4)"}, {"(concat 1:0 (concat 2:1 (concat 3:0 a:4)))", "(zext 10 (concat 2:1 (zext 7 a:4)))"},
		{"(concat (concat 1:0 a:4) b:4)", "(concat (zext 5 a:4) b:4)"}, {"(concat (concat 1:0 a:4) (concat 4:0 b:4))", "(concat (zext 5 a:4) (zext 8 b:4))"}, {"(concat 4:0 (zext 8 (zext 6 a:4)))", "(zext 12 a:4)"}, {"(concat 4:0 (zext 4 a:4))", "(zext 8 a:4)"},
		{"(zext 32 (concat 8:00 (concat 8:00 a:8)))", "(zext 32 a:8)"}, {"(concat 8:00 (sext 16 (concat 4:0 a:4)))", "(zext 24 (sext 16 (zext 8 a:4)))"}, {"(concat 4:1 (concat 4:2 (concat 4:3 4:4)))", "16:1234"}, {"(concat a:4 (concat 4:0 4:0))", "(concat a:4 8:00)"},
	} {
		becomes(t, c[0], c[1])
	}
	x := variable("a", 5)
	for range api.MaxDepth - 1 {
		x = op(api.TermConcat, x.Width+1, number(1, 0), x)
	}
	if y := simple(x); text(y) != "(zext 64 a:5)" {
		t.Error(text(y))
	}
}

// TestP3_1Loads has loads, which no rule rewrites, though their parts are simplified.
func TestP3_1Loads(t *testing.T) {
	for _, w := range []string{"8", "16", "32", "64"} {
		load := func(x string) string { return "(load " + w + " " + x + ")" }
		for _, s := range []string{load("8:ff"), load("1:0"), load("64:0000000000000000"), load("a:16"), load("(load 8 8:00)"), load(load(load("1:0"))), "(not " + load("8:01") + ")", "(sub " + load("8:01") + " " + load("8:02") + ")"} {
			becomes(t, s, s)
		}
		becomes(t, load("(add 8:fe 8:01)"), load("8:ff"))
		becomes(t, load("(sub a:16 a:16)"), load("16:0000"))
		becomes(t, load("(not (not a:16))"), load("a:16"))
		becomes(t, "(ite c:1 "+load("(neg 8:01)")+" "+load("8:ff")+")", load("8:ff"))
		becomes(t, "(eq "+load("8:01")+" "+load("8:01")+")", "1:1")
		becomes(t, "(zext "+w+" "+load("8:01")+")", load("8:01"))
	}
	becomes(t, "(sub (load 16 8:01) (load 16 8:01))", "16:0000")
	becomes(t, "(extract 0 8 (load 16 8:01))", "(extract 0 8 (load 16 8:01))")
	becomes(t, "(concat (load 8 8:01) (load 8 8:00))", "(concat (load 8 8:01) (load 8 8:00))")
}

// TestP3_1SameAsTheTable compares terms by chance with what the chapter's table says.
func TestP3_1SameAsTheTable(t *testing.T) {
	m := newMaker(1)
	changed := map[uint8]int{}
	for range 30000 {
		x := m.valid()
		y, want := simple(x), reference(x)
		if !term.Same(y, want) {
			t.Fatalf("%s becomes %s, not %s", text(x), text(y), text(want))
		}
		if !term.Same(x, y) {
			changed[x.Kind]++
		}
	}
	for kind := api.TermNot; kind <= api.TermLoad; kind++ {
		if changed[kind] < 50 {
			t.Errorf("the kind %d was changed %d times", kind, changed[kind])
		}
	}
}
