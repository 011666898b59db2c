package solve_test

import (
	"math"
	"slices"
	"testing"

	"retarget/api"
	"retarget/solve"
)

// square has no model; without the last clause it has the one in which both atoms are true.
func square() lists { return lists{{1, 2}, {-1, 2}, {1, -2}, {-1, -2}} }

func TestP5_2RefutesToTheLetter(t *testing.T) {
	for _, c := range []struct {
		what           string
		atoms          int
		clauses, proof lists
		want           bool
	}{
		{"the example", 2, square(), lists{{2}, {}}, true},
		{"the example without the empty clause", 2, square(), lists{{2}}, false},
		{"the example with the empty clause alone", 2, square(), lists{{}}, false},
		{"the example the other way around", 2, square(), lists{{}, {2}}, false},
		{"a step after the empty clause", 2, square(), lists{{2}, {}, {1}}, false},
		{"two empty clauses", 2, square(), lists{{2}, {}, {}}, true},
		{"any step after the empty clause", 2, square(), lists{{2}, {}, {1}, {-1, 2}, {}}, true},
		{"an empty proof", 2, square(), nil, false},
		{"an empty proof that is not nil", 2, square(), lists{}, false},
		{"no clauses", 2, nil, lists{{}}, false},
		{"no clauses and no proof", 0, nil, nil, false},
		{"clauses with a model", 2, square()[:3], lists{{2}, {}}, false},
		{"a step that does not follow", 2, square()[:3], lists{{-2}, {}}, false},
		{"a step that does not follow, and one that does", 3, square(), lists{{3}, {2}, {}}, false},
		{"a step that follows only from a later one", 3, append(square(), list{-2, 3}), lists{{3, -1}, {2}, {}}, true},
		{"a step that follows without propagation", 3, append(square(), list{3, 1}), lists{{3}, {2}, {}}, true},
		{"an empty clause", 0, lists{{}}, lists{{}}, true},
		{"an empty clause and steps of all kinds", 2, lists{{1}, {}}, lists{{1, 2}, {-1}, {1}, {}}, true},
		{"units of both signs", 1, lists{{1}, {-1}}, lists{{}}, true},
		{"a unit", 1, lists{{1}}, lists{{}}, false},
		{"a unit and its step", 1, lists{{1}}, lists{{-1}, {}}, false},
		{"a unit as a step", 1, lists{{1}}, lists{{1}, {}}, false},
		{"the same literal twice", 2, lists{{1, 1}, {-1, -1, 2}, {-2, -2, -2}}, lists{{}}, true},
		{"the same literal twice in a clause of two", 2, lists{{1, 2, 1}, {-1}, {-2, -2}}, lists{{}}, true},
		{"twice each", 2, lists{{1, 1, 2, 2}, {2, 2, -1, -1}, {1, -2, 1, -2}, {-1, -2, -2, -1}}, lists{{2, 2}, {}}, true},
		{"the same literal twice, of clauses with a model", 2, lists{{1, 1}, {-1, 2, 2}, {-2, -2, 1}}, lists{{}}, false},
		{"both signs in a clause", 2, lists{{1, -1}, {-2, 2}}, lists{{}}, false},
		{"both signs in a clause, and a contradiction", 2, lists{{1, -1}, {1}, {2, -1, -2}, {-1}}, lists{{}}, true},
		{"both signs and another literal", 2, lists{{1, -1, 2}, {-2}}, lists{{}}, false},
		{"both signs in a step", 2, lists{{1, 2}}, lists{{1, -1}, {2, 1, -2}, {}}, false},
		{"both signs in a step of a refutation", 3, square(), lists{{3, -3}, {-1, 2, 3, 1}, {2}, {3, -3, 3}, {}}, true},
		{"both signs in a step that is not used", 3, square(), lists{{3, -3}, {}}, false},
		{"a step with a literal twice", 2, square(), lists{{2, 2}, {}}, true},
		{"a step with a literal of no clause", 3, square(), lists{{2, 3}, {2}, {}}, true},
	} {
		if got := solve.Refutes(c.atoms, c.clauses, c.proof); got != c.want {
			t.Errorf("%s: %v", c.what, got)
		}
		if c.atoms > 0 && refutes(c.clauses, c.proof) != c.want {
			t.Errorf("%s: the words of the chapter say something else", c.what)
		}
	}
}

func TestP5_2RefutesInvalid(t *testing.T) {
	right := lists{{2}, {}}
	long := make(list, 5001)
	for i := range long {
		long[i] = 2
	}
	for what, c := range map[string]struct {
		atoms          int
		clauses, proof lists
	}{
		"a negative number of atoms":         {-1, lists{{}}, lists{{}}},
		"the least number of atoms":          {math.MinInt, lists{{}}, lists{{}}},
		"too many atoms":                     {5001, square(), right},
		"too few atoms":                      {1, square(), right},
		"too few atoms for the proof":        {2, square(), lists{{2, 3}, {2}, {}}},
		"a literal 0":                        {2, append(square(), list{0}), right},
		"a literal 0 besides":                {2, append(square(), list{1, 0}), right},
		"a literal beyond the atoms":         {2, append(square(), list{3}), right},
		"a negative one":                     {2, append(square(), list{-3}), right},
		"the least int":                      {2, append(square(), list{math.MinInt}), right},
		"the least int in the proof":         {2, square(), lists{{math.MinInt}, {2}, {}}},
		"a literal 0 in the proof":           {2, square(), lists{{2, 0}, {}}},
		"a literal 0 after the empty clause": {2, square(), lists{{2}, {}, {0}, {}}},
		"a literal 0 in the last step":       {2, square(), lists{{2}, {0}}},
		"too many clauses":                   {2, append(square(), copies(20000-3, 1, 2)...), right},
		"too long a clause":                  {2, append(square(), long), right},
		"too long a step":                    {2, square(), lists{long, {}}},
	} {
		if solve.Refutes(c.atoms, c.clauses, c.proof) {
			t.Error(what)
		}
	}
	for what, c := range map[string]struct {
		atoms          int
		clauses, proof lists
	}{
		"the most atoms":               {5000, append(square(), list{-5000, 5000}), lists{{2, 5000}, {2}, {}}},
		"the most clauses":             {2, append(square(), copies(20000-4, 1, 2)...), right},
		"the longest clauses":          {2, append(square(), long[:5000]), right},
		"the longest step":             {2, square(), lists{long[:5000], {}}},
		"the most clauses, of no atom": {0, copies(20000), lists{{}}},
	} {
		if !solve.Refutes(c.atoms, c.clauses, c.proof) {
			t.Error(what)
		}
	}
}

func TestP5_2RefutesMostSteps(t *testing.T) {
	for _, many := range []int{1, 2, 19999, 20000, 20001, 30000} {
		// The step is one of the clauses, so that only the last one is needed.
		proof := append(copies(many-1, 1, 2), list{})
		clauses := lists{{1, 2}, {-1}, {-2}}
		if got := solve.Refutes(2, clauses, proof); got != (many <= api.MaxSteps) {
			t.Errorf("%d steps: %v", many, got)
		}
		if solve.Refutes(2, clauses[:2], proof) {
			t.Errorf("%d steps, of clauses with a model", many)
		}
	}
}

// TestP5_2RefutesLongChains needs propagation through all atoms, from clauses in any order.
func TestP5_2RefutesLongChains(t *testing.T) {
	m := newMaker(2)
	for _, atoms := range []int{2, 3, 300, 5000} {
		clauses := m.shuffled(chain(atoms))
		for what, c := range map[string]struct {
			more, proof lists
			want        bool
		}{
			"both ends":               {lists{{1}, {-atoms}}, lists{{}}, true},
			"no end":                  {nil, lists{{}}, false},
			"an end":                  {lists{{1}}, lists{{}}, false},
			"the other end":           {lists{{-atoms}}, lists{{}}, false},
			"the whole as a step":     {nil, lists{{-1, atoms}}, false},
			"and then both ends":      {lists{{1, atoms}, {-1, -atoms}}, lists{{-1, atoms}, {atoms}, {}}, false},
			"back again":              {lists{{-atoms, 1}, {1, atoms}, {-1, -atoms}}, lists{{-1, atoms}, {atoms}, {}}, true},
			"back again without help": {lists{{-atoms, 1}, {1, atoms}, {-1, -atoms}}, lists{{}}, false},
			"back again by the first": {lists{{-atoms, 1}, {1, atoms}, {-1, -atoms}}, lists{{1}, {}}, true},
		} {
			if got := solve.Refutes(atoms, append(twin(clauses), c.more...), c.proof); got != c.want {
				t.Errorf("%d atoms, %s: %v", atoms, what, got)
			}
		}
	}
}

// TestP5_2RefutesLongClauses needs all literals of long clauses, one after the other, and step after step.
func TestP5_2RefutesLongClauses(t *testing.T) {
	m := newMaker(3)
	const atoms = 400
	var all list
	for i := range atoms {
		all = append(all, i+1)
	}
	clauses := lists{append(slices.Clone(all), all...)}
	proof := lists{}
	for i := atoms; i > 0; i-- {
		clauses = append(clauses, list{-i, -i})
		proof = append(proof, all[:i-1])
	}
	if !solve.Refutes(atoms, clauses, proof) || !solve.Refutes(atoms, m.shuffled(clauses), lists{{}}) {
		t.Error("a long clause")
	}
	for range 50 {
		without := slices.Delete(m.shuffled(clauses), 7, 8)
		if solve.Refutes(atoms, without, lists{{}}) {
			t.Error("a long clause without one of the others")
		}
	}
}

func TestP5_2RefutesByChance(t *testing.T) {
	m := newMaker(4)
	counts := map[bool]int{}
	for range 20000 {
		atoms := 1 + m.IntN(5)
		clauses := m.clauses(atoms, 1+m.IntN(5*atoms), 3)
		var proof lists
		if s, _ := solve.Solve(atoms, clauses, 100); s.Answer == api.AnswerNo && m.IntN(8) > 0 {
			proof = s.Proof
		} else {
			proof = append(m.clauses(atoms, m.IntN(4), 3), list{})
		}
		for range m.IntN(4) {
			if m.IntN(2) == 0 {
				proof = m.changed(atoms, proof)
			} else {
				clauses = m.changed(atoms, clauses)
			}
		}
		want := refutes(clauses, proof)
		if got := solve.Refutes(atoms, clauses, proof); got != want {
			t.Fatalf("%d atoms, %v, %v: %v", atoms, clauses, proof, got)
		}
		if want && hasModel(atoms, clauses) {
			t.Fatalf("%d atoms, %v, %v: a refutation of clauses with a model", atoms, clauses, proof)
		}
		counts[want]++
	}
	if counts[true] < 5000 || counts[false] < 5000 {
		t.Error(counts)
	}
}
