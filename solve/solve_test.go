package solve_test

import (
	"math"
	"slices"
	"testing"

	"retarget/api"
	"retarget/solve"
)

func TestP5_3SolveExamples(t *testing.T) {
	s := solved(t, 2, square()[:3], 10)
	if s.Answer != api.AnswerYes || !slices.Equal(s.Model, []bool{true, true}) {
		t.Error(s)
	}
	if s = solved(t, 2, square(), 10); s.Answer != api.AnswerNo || !refutes(square(), s.Proof) {
		t.Error(s)
	}
}

func TestP5_3SolveSmall(t *testing.T) {
	for _, c := range []struct {
		atoms   int
		clauses lists
		answer  uint8
	}{
		{0, nil, api.AnswerYes}, {0, lists{{}}, api.AnswerNo}, {0, lists{{}, {}}, api.AnswerNo}, {1, nil, api.AnswerYes}, {20, nil, api.AnswerYes}, {5000, nil, api.AnswerYes},
		{1, lists{{1}}, api.AnswerYes}, {1, lists{{-1}}, api.AnswerYes}, {1, lists{{1}, {-1}}, api.AnswerNo}, {1, lists{{-1, -1}, {1, 1, 1}}, api.AnswerNo}, {1, lists{{1, -1}}, api.AnswerYes}, {1, lists{{1, -1}, {-1}}, api.AnswerYes}, {1, lists{{1, -1}, {}}, api.AnswerNo},
		{2, lists{{1, 2}, {-1}, {-2}}, api.AnswerNo}, {2, lists{{1, 2, 1}, {-1}}, api.AnswerYes}, {2, lists{{1, 1, 2, 2}, {2, -1}, {1, -2}, {-2, -1, -2}}, api.AnswerNo}, {2, lists{{2}, {}}, api.AnswerNo}, {2, lists{{}, {2}}, api.AnswerNo},
	} {
		for _, limit := range []int{0, 1, 5, math.MaxInt} {
			if s := solved(t, c.atoms, c.clauses, limit); s.Answer != c.answer {
				t.Errorf("%d %v %d: %v", c.atoms, c.clauses, limit, s)
			}
		}
	}
}

func TestP5_3SolveByChance(t *testing.T) {
	m := newMaker(5)
	counts := map[uint8]int{}
	for range 20000 {
		atoms := 1 + m.IntN(6)
		clauses := m.clauses(atoms, m.IntN(6*atoms), 1+m.IntN(4))
		want := api.AnswerNo
		if hasModel(atoms, clauses) {
			want = api.AnswerYes
		}
		s := solved(t, atoms, clauses, m.IntN(3))
		if s.Answer != want {
			t.Fatalf("%d %v: %v", atoms, clauses, s)
		}
		if want == api.AnswerNo && !refutes(clauses, s.Proof) {
			t.Fatalf("%d %v: the refutation %v", atoms, clauses, s.Proof)
		}
		counts[want]++
	}
	if counts[api.AnswerYes] < 5000 || counts[api.AnswerNo] < 5000 {
		t.Error(counts)
	}
}

// TestP5_3SolveOfSure tries the most atoms of which each list of clauses is decided, where about half of the lists have a model.
func TestP5_3SolveOfSure(t *testing.T) {
	m := newMaker(6)
	counts := map[uint8]int{}
	for i := range 400 {
		atoms := 10 + m.IntN(5)
		length := 3 + i%3
		many := []int{49, 110, 230}[i%3] * atoms / 10
		var clauses lists
		for range many {
			clauses = append(clauses, m.clause(atoms, length))
		}
		want := api.AnswerNo
		if hasModel(atoms, clauses) {
			want = api.AnswerYes
		}
		if s := solved(t, atoms, clauses, 0); s.Answer != want {
			t.Fatalf("%d %v: %v", atoms, clauses, s)
		}
		counts[want]++
	}
	if counts[api.AnswerYes] < 40 || counts[api.AnswerNo] < 40 {
		t.Error(counts)
	}
}

// TestP5_3SolveOfEverything needs more steps than any other list with so many atoms: each model breaks one clause alone.
func TestP5_3SolveOfEverything(t *testing.T) {
	m := newMaker(7)
	for atoms := range api.SolveSure + 1 {
		clauses := m.shuffled(everything(atoms))
		if s := solved(t, atoms, clauses, 0); s.Answer != api.AnswerNo {
			t.Errorf("%d atoms: %d", atoms, s.Answer)
		}
		at := m.IntN(len(clauses))
		missing := clauses[at]
		s := solved(t, atoms, slices.Delete(clauses, at, at+1), 0)
		if s.Answer != api.AnswerYes || holds(lists{missing}, s.Model) {
			t.Errorf("%d atoms without %v: %v", atoms, missing, s)
		}
	}
	// One more atom is decided if the limit allows for it.
	if s := solved(t, 15, everything(14), api.MaxSteps); s.Answer != api.AnswerNo {
		t.Error("one more atom:", s.Answer)
	}
	if s := solved(t, 15, everything(14), 0); s.Answer == api.AnswerYes {
		t.Error("one more atom and no step:", s.Answer)
	}
}

func TestP5_3SolvePigeons(t *testing.T) {
	for holes := 1; holes <= 6; holes++ {
		atoms, clauses := pigeons(holes+1, holes)
		if s := solved(t, atoms, clauses, api.MaxSteps); s.Answer != api.AnswerNo {
			t.Errorf("%d holes: %d", holes, s.Answer)
		}
		if atoms, clauses = pigeons(holes, holes); solved(t, atoms, clauses, api.MaxSteps).Answer != api.AnswerYes {
			t.Errorf("a hole for each of %d", holes)
		}
	}
}

// TestP5_3SolveLimit holds AnswerHard against what the same search finds with greater limits.
func TestP5_3SolveLimit(t *testing.T) {
	for holes := 4; holes <= 5; holes++ {
		atoms, clauses := pigeons(holes+1, holes)
		most := len(solved(t, atoms, clauses, math.MaxInt).Proof)
		for limit := range most + 20 {
			s := solved(t, atoms, clauses, limit)
			if s.Answer == api.AnswerYes || s.Answer == api.AnswerHard && limit >= most {
				t.Errorf("%d holes, limit %d: %d", holes, limit, s.Answer)
			}
		}
		if s := solved(t, atoms, clauses, 0); s.Answer != api.AnswerHard {
			t.Errorf("%d holes, no step: %d", holes, s.Answer)
		}
	}
	atoms, clauses := pigeons(3, 2)
	if s := solved(t, atoms, clauses, 0); s.Answer != api.AnswerNo {
		t.Errorf("few atoms, no step: %d", s.Answer)
	}
	// A refutation of one step, and a model that needs none.
	if s := solved(t, 300, append(chain(300), list{1}, list{-300}), 1); s.Answer != api.AnswerNo || len(s.Proof) != 1 {
		t.Errorf("a chain with two ends: %v", s)
	}
	if s := solved(t, 300, append(chain(300), list{1}), 0); s.Answer != api.AnswerYes {
		t.Errorf("a chain: %d", s.Answer)
	}
}

// TestP5_3SolveMostSteps has clauses for which the search would need more than the greatest number of steps.
func TestP5_3SolveMostSteps(t *testing.T) {
	atoms, clauses := pigeons(13, 12)
	if s := solved(t, atoms, clauses, math.MaxInt); s.Answer == api.AnswerYes {
		t.Error(s.Answer)
	}
}

func TestP5_3SolveBetween(t *testing.T) {
	m := newMaker(8)
	for range 60 {
		atoms := 40 + m.IntN(80)
		var clauses lists
		for range atoms * 41 / 10 {
			clauses = append(clauses, m.clause(atoms, 3))
		}
		if s := solved(t, atoms, clauses, api.MaxSteps); s.Answer == api.AnswerHard {
			t.Errorf("%d atoms: not decided", atoms)
		}
	}
}

// TestP5_3SolveHarder has clauses that a search decides only if it learns from contradictions and takes the atoms in a good order.
func TestP5_3SolveHarder(t *testing.T) {
	atoms, clauses := pigeons(8, 7)
	if s := solved(t, atoms, clauses, api.MaxSteps); s.Answer != api.AnswerNo {
		t.Error("8 pigeons in 7 holes:", s.Answer)
	}
	m := newMaker(12)
	for range 12 {
		clauses = nil
		for range 170 * 43 / 10 {
			clauses = append(clauses, m.clause(170, 3))
		}
		if s := solved(t, 170, clauses, api.MaxSteps); s.Answer == api.AnswerHard {
			t.Error("170 atoms: not decided")
		}
	}
	// Each atom is the sum of the two before it, modulo 2, so that the third one after an atom equals it.
	clauses = nil
	for i := 1; i+2 <= 600; i++ {
		clauses = append(clauses, list{i, i + 1, -i - 2}, list{i, -i - 1, i + 2}, list{-i, i + 1, i + 2}, list{-i, -i - 1, -i - 2})
	}
	if s := solved(t, 600, append(clauses, list{1, 598}, list{-1, -598}), api.MaxSteps); s.Answer != api.AnswerNo {
		t.Error("sums modulo 2:", s.Answer)
	}
	if s := solved(t, 600, append(clauses, list{1, 599}, list{-1, -599}), api.MaxSteps); s.Answer != api.AnswerYes {
		t.Error("sums modulo 2 with a model:", s.Answer)
	}
}

func TestP5_3SolveOfTheGreatest(t *testing.T) {
	long := make(list, 5000)
	for i := range long {
		long[i] = 5000 - i
	}
	clauses := append(chain(5000), copies(20000-4999-2, long...)...)
	if s := solved(t, 5000, append(clauses, list{5000, 1}, list{2, -2}), 0); s.Answer != api.AnswerYes {
		t.Error("the most atoms, clauses and literals:", s.Answer)
	}
	if s := solved(t, 5000, append(clauses, list{1}, list{-5000}), 1); s.Answer != api.AnswerNo {
		t.Error("the most atoms, clauses and literals, without a model:", s.Answer)
	}
	var none lists
	for i := range 5000 {
		none = append(none, list{-i - 1})
	}
	if s := solved(t, 5000, append(copies(2000, long...), none...), 1); s.Answer != api.AnswerNo {
		t.Error("all literals are false:", s.Answer)
	}
}

func TestP5_3SolveErrors(t *testing.T) {
	for _, c := range []struct {
		atoms   int
		clauses lists
		limit   int
		e       api.Errno
	}{
		{2, square(), 0, api.OK}, {2, square(), math.MaxInt, api.OK}, {20, square(), math.MaxInt, api.OK},
		{2, square(), -1, api.ErrArg}, {2, square(), math.MinInt, api.ErrArg}, {20, nil, -1, api.ErrArg}, {0, lists{{}}, -1, api.ErrArg},
		{2, lists{{3}}, -1, api.ErrBad}, {2, lists{{0}}, -1, api.ErrBad}, {-1, nil, -1, api.ErrBad}, {-1, nil, 1, api.ErrBad},
		{5001, nil, -1, api.ErrMany}, {5001, lists{{0}}, -1, api.ErrMany}, {2, copies(20001), -1, api.ErrMany}, {2, lists{{0}, ones(5001)}, -1, api.ErrMany},
	} {
		s, e := solve.Solve(c.atoms, c.clauses, c.limit)
		if e != c.e {
			t.Errorf("%d atoms, %d clauses, limit %d: %d, not %d", c.atoms, len(c.clauses), c.limit, e, c.e)
		}
		if e != api.OK && (s.Answer != 0 || s.Model != nil || s.Proof != nil) {
			t.Errorf("%d atoms, %d clauses, limit %d: %v with an error", c.atoms, len(c.clauses), c.limit, s)
		}
	}
}
