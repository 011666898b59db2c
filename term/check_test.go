package term_test

import (
	"math"
	"strings"
	"testing"

	"retarget/api"
	"retarget/term"
)

func TestP2_1CheckOfEachKind(t *testing.T) {
	for s, x := range examples() {
		if e := term.Check(x); e != api.OK {
			t.Errorf("%s: %d", s, e)
		}
		if len(x.Sub) == 0 {
			x.Sub = []api.Term{}
			if e := term.Check(x); e != api.OK {
				t.Errorf("%s with an empty list: %d", s, e)
			}
		}
	}
}

// TestP2_1CheckFields changes one field of a valid term so that it is not well-formed.
func TestP2_1CheckFields(t *testing.T) {
	bad := func(s string, x api.Term) {
		t.Helper()
		if e := term.Check(x); e != api.ErrBad {
			t.Errorf("%s: %v: %d", s, x, e)
		}
		if e := term.Check(op(api.TermZext, 64, op(api.TermExtract, 1, x))); e != api.ErrBad {
			t.Errorf("%s: within another term: %d", s, e)
		}
	}
	for s, x := range examples() {
		for _, w := range []int{0, -1, -8, 65, 66, math.MaxInt, math.MinInt, 1 << 32, 1<<32 + 8} {
			y := x
			y.Width = w
			bad(s, y)
		}
		for _, k := range []uint8{0, 25, 26, 127, 128, 255} {
			y := x
			y.Kind = k
			bad(s, y)
		}
		if x.Kind != api.TermConst {
			y := x
			y.Bits = 1
			bad(s, y)
		}
		if x.Kind != api.TermVar {
			y := x
			y.Name = "a"
			bad(s, y)
		}
		if x.Kind != api.TermExtract {
			for _, low := range []int{1, -1} {
				y := x
				y.Low = low
				bad(s, y)
			}
		}
		y := x
		y.Sub = append(append([]api.Term{}, x.Sub...), variable("a", 8))
		bad(s, y)
		if len(x.Sub) > 0 {
			y.Sub = x.Sub[1:]
			bad(s, y)
			y.Sub = nil
			bad(s, y)
		}
		for i := range x.Sub {
			y := copyOf(x)
			y.Sub[i].Kind = 0
			bad(s, y)
		}
	}
}

func TestP2_1CheckWidthsOfParts(t *testing.T) {
	a, b, f := variable("a", 8), variable("b", 9), variable("f", 1)
	all := []api.Term{
		number(8, 256), number(1, 2), number(63, 1<<63), number(8, math.MaxUint64),
		op(api.TermNot, 9, a), op(api.TermNeg, 7, a), op(api.TermNot, 1, a), op(api.TermNeg, 8, f),
		op(api.TermEq, 8, a, a), op(api.TermEq, 1, a, b), op(api.TermUlt, 1, b, a), op(api.TermSlt, 8, a, a), op(api.TermSlt, 1, f, a), op(api.TermUlt, 2, f, f),
		op(api.TermIte, 8, a, a, a), op(api.TermIte, 8, f, a, b), op(api.TermIte, 8, f, b, a), op(api.TermIte, 9, f, a, a), op(api.TermIte, 1, f, a, a),
		op(api.TermConcat, 16, a, b), op(api.TermConcat, 18, a, b), op(api.TermConcat, 8, a, f), op(api.TermConcat, 1, a, b),
		op(api.TermConcat, 64, variable("x", 32), variable("y", 33)), op(api.TermConcat, 65, variable("x", 32), variable("y", 33)), op(api.TermConcat, 8, variable("x", math.MaxInt), variable("y", math.MinInt+9)),
		extract(0, 9, a), extract(1, 8, a), extract(8, 1, a), extract(-1, 1, a), extract(-1, 8, a), extract(-1, 9, a), extract(math.MinInt, 8, a), extract(math.MaxInt, 8, a), extract(math.MaxInt, 1, a), extract(math.MaxInt-7, 8, a), extract(4, 5, a),
		extract(math.MaxInt-7, 8, variable("x", math.MinInt)), extract(0, 8, variable("x", 65)),
		op(api.TermZext, 7, a), op(api.TermSext, 7, a), op(api.TermZext, 1, a), op(api.TermSext, 8, b), op(api.TermSext, 64, number(65, 0)), op(api.TermZext, 8, number(-1, 0)),
		op(api.TermLoad, 1, a), op(api.TermLoad, 7, a), op(api.TermLoad, 9, a), op(api.TermLoad, 24, a), op(api.TermLoad, 48, a), op(api.TermLoad, 63, a), op(api.TermLoad, 4, a), op(api.TermLoad, 8, number(0, 0)),
	}
	for k := api.TermAdd; k <= api.TermUrem; k++ {
		all = append(all, op(k, 8, a, b), op(k, 8, b, a), op(k, 9, a, a), op(k, 1, a, a))
	}
	for _, x := range all {
		if e := term.Check(x); e != api.ErrBad {
			t.Errorf("%v: %d", x, e)
		}
	}
}

func TestP2_1CheckNames(t *testing.T) {
	long := strings.Repeat("x", 24)
	for _, s := range []string{"a", "Z9_", "r", "R", "pc", "rr", "r_", "r.a", "r.r", "r.R0_", "r.sp", long, "r." + long} {
		if e := term.Check(variable(s, 8)); e != api.OK {
			t.Errorf("%q: %d", s, e)
		}
		if e := term.CheckBound([]api.Binding{{Name: s, Width: 1, Bits: 1}}); e != api.OK {
			t.Errorf("binding of %q: %d", s, e)
		}
	}
	for _, s := range []string{"", "r.", ".", ".a", "a.b", "R.a", "rr.a", "r.r.a", "r.r.", "r..a", "r.9", "r._", "r. a", " r.a", "9", "_", "a ", "a-", "a:8", "é", "r.é", "a\x00", long + "x", "r." + long + "x", "r." + strings.Repeat("x", 5000)} {
		if e := term.Check(variable(s, 8)); e != api.ErrBad {
			t.Errorf("%q: %d", s, e)
		}
		if e := term.CheckBound([]api.Binding{{Name: s, Width: 1, Bits: 1}}); e != api.ErrBad {
			t.Errorf("binding of %q: %d", s, e)
		}
	}
}

func TestP2_1CheckSizeAndDepth(t *testing.T) {
	ite := func(size int) api.Term { return op(api.TermIte, 8, variable("f", 1), wide(size-3), number(8, 0)) }
	for _, c := range []struct {
		what string
		x    api.Term
		e    api.Errno
	}{
		{"depth 60", chain(60), api.OK}, {"depth 61", chain(61), api.ErrMany}, {"depth 401", chain(401), api.ErrMany}, {"depth 100000", chain(100000), api.ErrMany},
		{"size 399", wide(399), api.OK}, {"size 400", op(api.TermNot, 8, wide(399)), api.OK}, {"size 401", wide(401), api.ErrMany}, {"size 402", op(api.TermNot, 8, wide(401)), api.ErrMany},
		{"size 400 of three parts", ite(400), api.OK}, {"size 402 of three parts", ite(402), api.ErrMany},
		{"depth 60 at the end", op(api.TermAdd, 8, wide(3), chain(59)), api.OK}, {"depth 61 at the end", op(api.TermAdd, 8, wide(3), chain(60)), api.ErrMany}, {"depth 61 at the beginning", op(api.TermAdd, 8, chain(60), wide(3)), api.ErrMany},
		{"400 nodes, not well-formed", api.Term{Sub: make([]api.Term, 399)}, api.ErrBad}, {"401 nodes, not well-formed", api.Term{Sub: make([]api.Term, 400)}, api.ErrMany},
		{"parts of a constant", api.Term{Kind: api.TermConst, Width: 8, Sub: []api.Term{chain(60)}}, api.ErrMany},
		{"parts of a variable", api.Term{Kind: api.TermVar, Width: 8, Name: "a", Sub: []api.Term{wide(401)}}, api.ErrMany},
		{"an unknown kind below", op(api.TermAdd, 8, api.Term{}, wide(401)), api.ErrMany},
		{"2^60 nodes", doubled(60), api.ErrMany}, {"itself once", endless(1), api.ErrMany}, {"itself twice", endless(2), api.ErrMany}, {"itself 1000 times", endless(1000), api.ErrMany},
	} {
		if e := term.Check(c.x); e != c.e {
			t.Errorf("%s: %d", c.what, e)
		}
	}
}

func TestP2_1CheckTwoWidths(t *testing.T) {
	a, other, f := variable("a", 8), variable("a", 16), variable("r.a", 1)
	both := op(api.TermConcat, 24, a, other)
	for _, c := range []struct {
		what string
		x    api.Term
		e    api.Errno
	}{
		{"side by side", both, api.ErrWidth}, {"the greater one first", op(api.TermConcat, 24, other, a), api.ErrWidth}, {"far from each other", op(api.TermAdd, 24, op(api.TermZext, 24, a), op(api.TermNot, 24, op(api.TermSext, 24, other))), api.ErrWidth},
		{"a third occurrence", op(api.TermConcat, 32, op(api.TermAdd, 8, a, a), both), api.ErrWidth}, {"the last width is the first one", op(api.TermConcat, 32, both, a), api.ErrWidth},
		{"one width", op(api.TermAdd, 8, a, a), api.OK}, {"a register of the same name", op(api.TermConcat, 9, a, f), api.OK}, {"a longer name", op(api.TermConcat, 24, a, variable("aa", 16)), api.OK}, {"a capital letter", op(api.TermConcat, 24, a, variable("A", 16)), api.OK},
		{"not well-formed besides", op(api.TermNot, 8, both), api.ErrBad}, {"not well-formed behind", op(api.TermConcat, 25, both, api.Term{}), api.ErrBad}, {"too large besides", op(api.TermConcat, 32, both, wide(397)), api.ErrMany},
		{"too large and not well-formed", op(api.TermConcat, 1, both, wide(397)), api.ErrMany},
		{"the other width is none", op(api.TermConcat, 24, a, variable("a", 0)), api.ErrBad},
	} {
		if e := term.Check(c.x); e != c.e {
			t.Errorf("%s: %d", c.what, e)
		}
	}
}

// wellFormed is the table of the chapter.
func wellFormed(t api.Term) bool {
	widths := []int{}
	for _, p := range t.Sub {
		if !wellFormed(p) {
			return false
		}
		widths = append(widths, p.Width)
	}
	are := func(want ...int) bool {
		if len(widths) != len(want) {
			return false
		}
		for i := range want {
			if widths[i] != want[i] {
				return false
			}
		}
		return true
	}
	w := t.Width
	if w < 1 || w > 64 {
		return false
	}
	unused := t
	switch k := t.Kind; k {
	case api.TermConst:
		unused.Bits = 0
		if !are() || w < 64 && t.Bits>>w != 0 {
			return false
		}
	case api.TermVar:
		unused.Name = ""
		if !are() || t.Name == "" || t.Name == "r." || t.Name[0] == '9' {
			return false
		}
	case api.TermNot, api.TermNeg:
		if !are(w) {
			return false
		}
	case api.TermEq, api.TermUlt, api.TermSlt:
		if w != 1 || len(widths) == 0 || !are(widths[0], widths[0]) {
			return false
		}
	case api.TermIte:
		if !are(1, w, w) {
			return false
		}
	case api.TermConcat:
		if len(widths) != 2 || widths[0]+widths[1] != w {
			return false
		}
	case api.TermExtract:
		unused.Low = 0
		if len(widths) != 1 || t.Low < 0 || t.Low > 64 || t.Low+w > widths[0] {
			return false
		}
	case api.TermZext, api.TermSext:
		if len(widths) != 1 || widths[0] > w {
			return false
		}
	case api.TermLoad:
		if len(widths) != 1 || w%8 != 0 || 64%w != 0 {
			return false
		}
	default:
		if k < api.TermAdd || k > api.TermUrem || !are(w, w) {
			return false
		}
	}
	return unused.Bits == 0 && unused.Name == "" && unused.Low == 0
}

// spoil changes something of a node.
func (m maker) spoil(n *api.Term) {
	switch m.IntN(8) {
	case 0:
		n.Kind = uint8(m.IntN(27))
	case 1:
		n.Width = []int{0, 1, 8, 9, 16, 32, 64, 65, -1}[m.IntN(9)]
	case 2:
		n.Bits = []uint64{0, 1, 255, 1 << 63}[m.IntN(4)]
	case 3:
		n.Name = []string{"", "a", "r.", "9"}[m.IntN(4)]
	case 4:
		n.Low = m.IntN(67) - 1
	case 5:
		n.Sub = append(n.Sub, number(8, 1))
	case 6:
		n.Sub = n.Sub[:m.IntN(len(n.Sub)+1)]
	case 7:
		if len(n.Sub) > 1 {
			n.Sub[0], n.Sub[1] = n.Sub[1], n.Sub[0]
		}
	}
}

func TestP2_1CheckByChance(t *testing.T) {
	m := newMaker(1)
	counts := map[api.Errno]int{}
	for range 20000 {
		x := m.valid()
		for range m.IntN(3) {
			all := places(&x)
			m.spoil(all[m.IntN(len(all))])
		}
		for _, n := range places(&x) {
			if n.Kind == api.TermVar && m.IntN(4) == 0 {
				n.Name = "v"
			}
		}
		want := api.OK
		widths := map[string]int{}
		for _, n := range places(&x) {
			if n.Kind == api.TermVar {
				if w, met := widths[n.Name]; met && w != n.Width {
					want = api.ErrWidth
				}
				widths[n.Name] = n.Width
			}
		}
		if !wellFormed(x) {
			want = api.ErrBad
		}
		if len(places(&x)) > api.MaxNodes {
			want = api.ErrMany
		}
		e := term.Check(x)
		if e != want {
			t.Fatalf("%v: %d, not %d", x, e, want)
		}
		counts[e]++
	}
	if counts[api.OK] < 5000 || counts[api.ErrBad] < 5000 || counts[api.ErrWidth] < 500 {
		t.Error(counts)
	}
}

func TestP2_1Pure(t *testing.T) {
	load := op(api.TermLoad, 8, variable("a", 8))
	for s, x := range examples() {
		if term.Pure(x) != (x.Kind != api.TermLoad) {
			t.Errorf("%s", s)
		}
	}
	for _, x := range []api.Term{load, op(api.TermNot, 8, load), op(api.TermAdd, 8, number(8, 1), load), op(api.TermAdd, 8, load, number(8, 1)), op(api.TermIte, 8, number(1, 1), number(8, 1), load), op(api.TermLoad, 16, load)} {
		if term.Pure(x) {
			t.Errorf("%v has a load", x)
		}
	}
	for _, x := range []api.Term{{}, number(8, 256), chain(61), wide(401), op(api.TermConcat, 24, variable("a", 8), variable("a", 16)), op(api.TermNot, 9, variable("a", 8)), endless(2)} {
		if term.Pure(x) {
			t.Errorf("%v is not valid", x.Kind)
		}
	}
	if !term.Pure(chain(60)) || !term.Pure(wide(399)) {
		t.Error("large terms")
	}
}
