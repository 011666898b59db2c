package solve_test

import (
	"slices"
	"testing"

	"retarget/api"
	"retarget/solve"
)

// TestP5_4ModelOrRefutation has refutations of clauses without a model only, and a refutation of all of them.
func TestP5_4ModelOrRefutation(t *testing.T) {
	m := newMaker(9)
	for range 3000 {
		atoms := 1 + m.IntN(5)
		clauses := m.clauses(atoms, m.IntN(6*atoms), 3)
		s := solved(t, atoms, clauses, 5)
		if (s.Answer == api.AnswerYes) != hasModel(atoms, clauses) {
			t.Fatalf("%d %v: %v", atoms, clauses, s)
		}
		for range 5 {
			proof := append(m.clauses(atoms, m.IntN(3), 2), list{})
			if solve.Refutes(atoms, clauses, proof) && s.Answer != api.AnswerNo {
				t.Fatalf("%d %v: a model, and the refutation %v", atoms, clauses, proof)
			}
		}
	}
}

func TestP5_4Order(t *testing.T) {
	m := newMaker(10)
	for i := range 600 {
		atoms, length, many := 1+m.IntN(5), 1+m.IntN(3), 5
		if i%3 == 0 {
			atoms, length, many = 15+m.IntN(25), 3, 4
		}
		var clauses lists
		for range atoms * many {
			clauses = append(clauses, m.clause(atoms, length))
		}
		s := solved(t, atoms, clauses, api.MaxSteps)
		for range 5 {
			other := m.shuffled(clauses)
			again := solved(t, atoms, other, api.MaxSteps)
			if again.Answer != s.Answer {
				t.Fatalf("%d %v: %d, and %v: %d", atoms, clauses, s.Answer, other, again.Answer)
			}
			// The same model and the same refutation belong to both.
			if s.Answer == api.AnswerYes && !solve.Holds(other, s.Model) || s.Answer == api.AnswerNo && !solve.Refutes(atoms, other, s.Proof) {
				t.Fatalf("%d %v: %v is not one of %v", atoms, clauses, s, other)
			}
		}
	}
}

// TestR2Memory has arguments with room beyond their lengths, and results that are spoiled.
func TestR2Memory(t *testing.T) {
	m := newMaker(11)
	for range 400 {
		atoms := 1 + m.IntN(20)
		clauses := roomy(m.clauses(atoms, m.IntN(6*atoms), 3), 3)
		before := twinOfWhole(clauses)
		s := solved(t, atoms, clauses, api.MaxSteps)
		proof, model := roomy(s.Proof, 2), slices.Clone(s.Model)
		steps := twinOfWhole(proof)
		solve.Refutes(atoms, clauses, proof)
		solve.Holds(clauses, model)
		solve.Check(atoms, clauses)
		if !same(whole(clauses), before) || !same(whole(proof), steps) || !slices.Equal(model, s.Model) {
			t.Fatalf("%d %v: an argument has changed", atoms, clauses)
		}
		for i, step := range s.Proof {
			for j := range step[:cap(step)] {
				step[:cap(step)][j] = 99
			}
			for j := i + 1; j < len(s.Proof); j++ {
				if slices.Contains(s.Proof[j], 99) {
					t.Fatalf("%d %v: two steps share memory", atoms, clauses)
				}
			}
		}
		for i := range s.Model {
			s.Model[i] = !s.Model[i]
		}
		if !same(whole(clauses), before) {
			t.Fatalf("%d %v: a result shares memory with an argument", atoms, clauses)
		}
		again := solved(t, atoms, clauses, api.MaxSteps)
		if !same(again.Proof, proof) || !slices.Equal(again.Model, model) {
			t.Fatalf("%d %v: another solution", atoms, clauses)
		}
	}
}

// twinOfWhole copies clauses and all that their lists have room for.
func twinOfWhole(clauses lists) lists { return twin(whole(clauses)) }

// TestR2SharedMemory has clauses that are parts of one list.
func TestR2SharedMemory(t *testing.T) {
	row := list{1, -2, 3, -1, 2, -3, 1, 2}
	var clauses lists
	for i := range row {
		for j := i; j <= len(row); j++ {
			clauses = append(clauses, row[i:j])
		}
	}
	for i := range clauses {
		part := clauses[i:]
		want := hasModel(3, part)
		if s := solved(t, 3, part, 0); (s.Answer == api.AnswerYes) != want {
			t.Errorf("%v: %v", part, s)
		}
	}
	if !slices.Equal(row, list{1, -2, 3, -1, 2, -3, 1, 2}) {
		t.Error("the list has changed")
	}
}
