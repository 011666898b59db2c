package solve_test

import (
	"math"
	"slices"
	"testing"

	"retarget/api"
	"retarget/solve"
)

func checks(t *testing.T, what string, atoms int, clauses lists, want api.Errno) {
	t.Helper()
	if e := solve.Check(atoms, clauses); e != want {
		t.Errorf("Check: %s: %d, not %d", what, e, want)
	}
	s, e := solve.Solve(atoms, clauses, 10)
	if e != want {
		t.Errorf("Solve: %s: %d, not %d", what, e, want)
	}
	if e != api.OK && (s.Answer != 0 || s.Model != nil || s.Proof != nil) {
		t.Errorf("Solve: %s: %v with the error %d", what, s, e)
	}
}

func TestP5_1CheckLimits(t *testing.T) {
	for _, c := range []struct {
		what                 string
		atoms, many, longest int
		e                    api.Errno
	}{
		{"nothing", 0, 0, 0, api.OK}, {"an atom without clauses", 1, 0, 0, api.OK}, {"empty clauses without atoms", 0, 3, 0, api.OK},
		{"4,999 atoms", 4999, 2, 3, api.OK}, {"5,000 atoms", 5000, 2, 3, api.OK}, {"5,001 atoms", 5001, 2, 3, api.ErrMany}, {"5,001 atoms without clauses", 5001, 0, 0, api.ErrMany}, {"as many atoms as there are", math.MaxInt, 2, 3, api.ErrMany},
		{"19,999 clauses", 3, 19999, 3, api.OK}, {"20,000 clauses", 3, 20000, 3, api.OK}, {"20,001 clauses", 3, 20001, 3, api.ErrMany}, {"20,001 empty clauses", 0, 20001, 0, api.ErrMany},
		{"4,999 literals", 3, 5, 4999, api.OK}, {"5,000 literals", 3, 5, 5000, api.OK}, {"5,001 literals", 3, 5, 5001, api.ErrMany}, {"more literals than atoms", 1, 1, 2, api.OK},
		{"the greatest numbers", 5000, 20000, 5000, api.OK}, {"too many atoms besides", 5001, 20000, 5000, api.ErrMany}, {"too many clauses besides", 5000, 20001, 5000, api.ErrMany}, {"too many literals besides", 5000, 20000, 5001, api.ErrMany}, {"too many of each", 5001, 20001, 5001, api.ErrMany},
	} {
		var clauses lists
		if c.many > 0 {
			clauses = append(copies(c.many-1, ones(min(c.longest, 3))...), ones(c.longest))
		}
		checks(t, c.what, c.atoms, clauses, c.e)
		slices.Reverse(clauses)
		checks(t, c.what+", the other way around", c.atoms, clauses, c.e)
	}
	checks(t, "all clauses as long as they may be", 5000, copies(20000, ones(5000)...), api.OK)
	checks(t, "empty lists", 0, lists{{}, nil, {}}, api.OK)
}

func TestP5_1CheckLiterals(t *testing.T) {
	for _, atoms := range []int{0, 1, 2, 14, 4999, 5000} {
		for _, literal := range []int{0, 1, -1, 2, -2, 14, -14, 15, -15, 4999, -4999, 5000, -5000, 5001, -5001, 1 << 31, -1 << 31, math.MaxInt, math.MinInt, math.MinInt + 1} {
			want := api.ErrBad
			if l := uint64(max(literal, -literal)); literal != math.MinInt && l >= 1 && l <= uint64(atoms) {
				want = api.OK
			}
			checks(t, "a single literal", atoms, lists{{literal}}, want)
			if atoms > 0 {
				checks(t, "the last literal", atoms, lists{{1, -1}, {}, {-atoms, atoms, literal}}, want)
				checks(t, "the first literal", atoms, lists{{literal, 1, 1}, {atoms}}, want)
			}
		}
	}
	checks(t, "both signs and twice the same", 2, lists{{1, -1, 1, 1, 2, 2, -2}, {2, 2}, {-1, -1}}, api.OK)
}

func TestP5_1CheckNegative(t *testing.T) {
	for _, atoms := range []int{-1, -2, -5000, -5001, math.MinInt} {
		checks(t, "no clauses", atoms, nil, api.ErrBad)
		checks(t, "an empty clause", atoms, lists{{}}, api.ErrBad)
		checks(t, "a literal", atoms, lists{{1}}, api.ErrBad)
		checks(t, "a literal of the same size", atoms, lists{{atoms}, {-atoms}}, api.ErrBad)
	}
}

func TestP5_1CheckManyFirst(t *testing.T) {
	long := ones(5001)
	for what, c := range map[string]struct {
		atoms   int
		clauses lists
	}{
		"too many atoms, and a literal 0":                {5001, lists{{0}}},
		"too many atoms, and a literal beyond them":      {5001, lists{{5002}}},
		"too many clauses, and a literal 0":              {3, append(lists{{0}}, copies(20000, 1)...)},
		"too many clauses, and a negative number":        {-1, copies(20001)},
		"a long clause, and a negative number":           {-1, lists{long}},
		"a long clause after a literal 0":                {3, lists{{0}, long}},
		"a long clause after a literal beyond the atoms": {3, lists{{1, 4}, {2}, long, {1}}},
		"a long clause before a literal 0":               {3, lists{long, {0}}},
		"a literal 0 in a long clause":                   {3, lists{append(list{0}, long...)}},
		"a long clause without atoms":                    {0, lists{{}, long}},
	} {
		checks(t, what, c.atoms, c.clauses, api.ErrMany)
	}
}

func TestP5_2HoldsToTheLetter(t *testing.T) {
	no, yes := false, true
	for _, c := range []struct {
		clauses lists
		model   []bool
		want    bool
	}{
		{nil, nil, true}, {lists{}, []bool{}, true}, {nil, []bool{no}, true},
		{lists{{}}, nil, false}, {lists{{}}, []bool{yes}, false}, {lists{{1}, {}}, []bool{yes}, false}, {lists{nil}, []bool{yes}, false},
		{lists{{1}}, []bool{yes}, true}, {lists{{1}}, []bool{no}, false}, {lists{{-1}}, []bool{yes}, false}, {lists{{-1}}, []bool{no}, true},
		{lists{{1, 2}, {-1, 2}, {1, -2}}, []bool{yes, yes}, true}, {lists{{1, 2}, {-1, 2}, {1, -2}}, []bool{no, yes}, false}, {lists{{1, 2}, {-1, 2}, {1, -2}}, []bool{yes, no}, false}, {lists{{1, 2}, {-1, 2}, {1, -2}}, []bool{no, no}, false},
		{lists{{1, -1}}, []bool{no}, true}, {lists{{1, -1}}, []bool{yes}, true}, {lists{{1, 1}, {-1, -1}}, []bool{yes}, false},
		// Literals that are 0 or beyond the model are not true.
		{lists{{0}}, []bool{yes}, false}, {lists{{0}}, []bool{no}, false}, {lists{{0, 1}}, []bool{yes}, true}, {lists{{0}}, nil, false},
		{lists{{1}}, nil, false}, {lists{{-1}}, nil, false}, {lists{{1, -1}}, nil, false}, {lists{{3}}, []bool{yes, yes}, false}, {lists{{-3}}, []bool{yes, no}, false}, {lists{{3, -2}}, []bool{yes, no}, true}, {lists{{2}, {-3}}, []bool{yes, yes}, false},
		{lists{{math.MinInt}}, []bool{no}, false}, {lists{{math.MinInt}}, nil, false}, {lists{{math.MaxInt, math.MinInt, math.MinInt + 1}}, []bool{no, yes}, false}, {lists{{math.MinInt, 1}}, []bool{yes}, true},
		{lists{{-5001}}, make([]bool, 5001), true}, {lists{{5001}, {-6000}}, make([]bool, 6000), false}, {copies(30000, -1), make([]bool, 1), true}, {lists{ones(6000)}, []bool{yes}, true},
	} {
		if got := solve.Holds(c.clauses, c.model); got != c.want {
			t.Errorf("%v in %v: %v", c.clauses, c.model, got)
		}
	}
}

func TestP5_2HoldsByChance(t *testing.T) {
	m := newMaker(1)
	for range 3000 {
		atoms := 1 + m.IntN(4)
		clauses := m.clauses(atoms, m.IntN(5), 3)
		models(atoms, func(model []bool) bool {
			if got := solve.Holds(clauses, model); got != holds(clauses, model) {
				t.Fatalf("%v in %v: %v", clauses, model, got)
			}
			// Further atoms change nothing; without the last one, its literals are not true.
			if solve.Holds(clauses, append(slices.Clone(model), true)) != holds(clauses, model) {
				t.Fatalf("%v in %v and one more", clauses, model)
			}
			var left lists
			for _, c := range clauses {
				left = append(left, slices.DeleteFunc(slices.Clone(c), func(l int) bool { return max(l, -l) == atoms }))
			}
			if solve.Holds(clauses, model[:atoms-1]) != holds(left, model) {
				t.Fatalf("%v in %v without the last one", clauses, model)
			}
			return true
		})
	}
}
