package term_test

import (
	"math"
	"reflect"
	"testing"

	"retarget/api"
	"retarget/term"
)

func TestP2_1SizeAndDepth(t *testing.T) {
	a := variable("a", 8)
	for _, c := range []struct {
		what        string
		x           api.Term
		size, depth int
	}{
		{"zero", api.Term{}, 1, 1}, {"variable", a, 1, 1}, {"empty list", api.Term{Sub: []api.Term{}}, 1, 1}, {"not", op(api.TermNot, 8, a), 2, 2}, {"add", op(api.TermAdd, 8, a, a), 3, 2}, {"ite", op(api.TermIte, 8, a, op(api.TermNot, 8, a), a), 5, 3},
		{"deep on the left", op(api.TermAdd, 8, chain(5), a), 7, 6}, {"deep on the right", op(api.TermAdd, 8, a, chain(5)), 7, 6},
		{"parts of a constant", api.Term{Kind: api.TermConst, Sub: []api.Term{a, {}, chain(7)}}, 10, 8}, {"unknown kind", api.Term{Kind: 200, Width: -1, Sub: make([]api.Term, 1000)}, 1001, 2},
		{"60", chain(60), 60, 60}, {"61", chain(61), 61, 61}, {"401", wide(401), 401, 9}, {"100000", chain(100000), 100000, 100000},
		{"shared parts", doubled(5), 31, 5}, {"2^62 - 1", doubled(62), 1<<62 - 1, 62}, {"2^63 - 1", doubled(63), math.MaxInt, 63}, {"2^64 - 1", doubled(64), math.MaxInt, 64},
		{"itself", endless(1), math.MaxInt, math.MaxInt}, {"itself twice", endless(2), math.MaxInt, math.MaxInt}, {"itself as a part", op(api.TermAdd, 8, a, endless(1)), math.MaxInt, math.MaxInt},
	} {
		if term.Size(c.x) != c.size || term.Depth(c.x) != c.depth {
			t.Errorf("%s: %d %d", c.what, term.Size(c.x), term.Depth(c.x))
		}
	}
}

// TestP2_1SizeOfOverlappingLists has lists of parts that begin at the same place, or end there.
func TestP2_1SizeOfOverlappingLists(t *testing.T) {
	parts := []api.Term{chain(2), chain(3), chain(4)}
	x := api.Term{Sub: []api.Term{{Sub: parts}, {Sub: parts[:2]}, {Sub: parts[1:]}, {Sub: parts[:1]}, {Sub: parts[:2]}}}
	if term.Size(x) != 1+10+6+8+3+6 || term.Depth(x) != 6 {
		t.Error(term.Size(x), term.Depth(x))
	}
	y := api.Term{Sub: []api.Term{{Sub: parts}, {Sub: parts[:2]}, {Sub: parts[1:]}, {Sub: parts[:1]}, {Sub: parts[1:]}}}
	if term.Same(x, y) || !term.Same(x, copyOf(x)) {
		t.Error("comparison")
	}
}

func depthOf(t api.Term) int {
	d := 0
	for _, p := range t.Sub {
		d = max(d, depthOf(p))
	}
	return d + 1
}

func TestP2_1SizeAndDepthByChance(t *testing.T) {
	m := newMaker(2)
	for range 5000 {
		x := m.term(m.width(), 1+m.IntN(8))
		if term.Size(x) != len(places(&x)) || term.Depth(x) != depthOf(x) {
			t.Fatalf("%v: %d %d", x, term.Size(x), term.Depth(x))
		}
	}
}

// TestP2_1SameFields compares terms that differ in one field of one node.
func TestP2_1SameFields(t *testing.T) {
	for s, x := range examples() {
		if !term.Same(x, x) || !term.Same(x, copyOf(x)) {
			t.Errorf("%s is the same as itself", s)
		}
		for i := range places(&x) {
			for k := range 7 {
				y := copyOf(x)
				n := places(&y)[i]
				switch k {
				case 0:
					n.Kind++
				case 1:
					n.Width++
				case 2:
					n.Bits++
				case 3:
					n.Name += "x"
				case 4:
					n.Low++
				case 5:
					n.Sub = append(n.Sub, api.Term{})
				case 6:
					if len(n.Sub) == 0 {
						continue
					}
					n.Sub = n.Sub[:len(n.Sub)-1]
				}
				if term.Same(x, y) || term.Same(y, x) {
					t.Errorf("%s is not the same as %v", s, y)
				}
			}
		}
	}
	for s, x := range examples() {
		for u, y := range examples() {
			if term.Same(x, y) != (s == u) {
				t.Errorf("%s and %s", s, u)
			}
		}
	}
}

func TestP2_1SameOfStrangeTerms(t *testing.T) {
	a, b, list := variable("a", 8), variable("b", 8), doubled(3)
	empty := a
	empty.Sub = []api.Term{}
	for _, c := range []struct {
		what string
		x, y api.Term
		same bool
	}{
		{"nil and empty", a, empty, true}, {"nil and empty below", op(api.TermNot, 8, a), op(api.TermNot, 8, empty), true}, {"zero", api.Term{}, api.Term{Sub: []api.Term{}}, true},
		{"order of parts", op(api.TermAdd, 8, a, number(8, 1)), op(api.TermAdd, 8, number(8, 1), a), false},
		{"one of two parts is shared", op(api.TermAdd, 8, a, list), op(api.TermAdd, 8, b, list), false}, {"the other one is shared", op(api.TermAdd, 8, list, a), op(api.TermAdd, 8, list, b), false},
		{"parts that were met before", op(api.TermIte, 8, a, doubled(3), doubled(3)), op(api.TermIte, 8, b, list, list), false}, {"parts that were met before others", op(api.TermIte, 8, doubled(3), doubled(3), a), op(api.TermIte, 8, list, list, b), false},
		{"not valid", api.Term{Kind: 99, Width: -3, Sub: []api.Term{{Low: -1}}}, api.Term{Kind: 99, Width: -3, Sub: []api.Term{{Low: -1}}}, true},
		{"2^60 nodes", doubled(60), doubled(60), true}, {"2^60 and 2^59 nodes", doubled(60), doubled(59), false}, {"2^60 nodes and one other", op(api.TermAdd, 8, doubled(60), a), op(api.TermAdd, 8, doubled(60), number(8, 1)), false},
		{"itself", endless(2), endless(2), true}, {"itself twice and three times", endless(2), endless(3), false}, {"with and without an end", endless(2), doubled(9), false},
		{"nested deeply", chain(100000), chain(100000), true}, {"nested more deeply", chain(100000), chain(100001), false},
	} {
		if term.Same(c.x, c.y) != c.same || term.Same(c.y, c.x) != c.same {
			t.Errorf("%s", c.what)
		}
	}
}

// TestP2_1Twin also spoils copies, which changes nothing else.
func TestP2_1Twin(t *testing.T) {
	m := newMaker(3)
	for range 2000 {
		x := m.term(m.width(), 1+m.IntN(6))
		for range m.IntN(3) {
			all := places(&x)
			m.spoil(all[m.IntN(len(all))])
		}
		kept := copyOf(x)
		y := term.Twin(x)
		if !reflect.DeepEqual(copyOf(y), kept) {
			t.Fatalf("twin of %v: %v", kept, y)
		}
		for _, n := range places(&y) {
			n.Kind, n.Width, n.Bits, n.Name, n.Low = 77, 77, 77, "spoilt", 77
			_ = append(n.Sub, api.Term{Kind: 78})
		}
		if !reflect.DeepEqual(copyOf(x), kept) {
			t.Fatalf("a twin shares memory: %v", kept)
		}
	}
}

func TestP2_1TwinOfSharedParts(t *testing.T) {
	y := term.Twin(doubled(8))
	seen := map[*api.Term]bool{}
	for _, n := range places(&y) {
		if seen[n] {
			t.Fatal("two parts of a twin share memory")
		}
		seen[n] = true
	}
	if len(seen) != 255 || !term.Same(y, doubled(8)) {
		t.Error(len(seen))
	}
	if x := chain(100000); !term.Same(term.Twin(x), x) {
		t.Error("nested deeply")
	}
	zero(t, term.Twin(doubled(60)))
	zero(t, term.Twin(endless(2)))
}
