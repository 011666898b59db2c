package solve_test

import (
	"math/rand/v2"
	"slices"
	"testing"

	"retarget/api"
	"retarget/solve"
)

// list is a clause, or several.
type list = []int
type lists = [][]int

// lit reports whether a literal of these atoms is true in a model.
func lit(literal int, model []bool) bool {
	if literal < 0 {
		return !model[-literal-1]
	}
	return model[literal-1]
}

// holds reports whether all clauses, which have literals of the model's atoms, hold in it.
func holds(clauses lists, model []bool) bool {
	return !slices.ContainsFunc(clauses, func(c list) bool {
		return !slices.ContainsFunc(c, func(l int) bool { return lit(l, model) })
	})
}

// models yields all models of this many atoms.
func models(atoms int, yield func([]bool) bool) {
	for x := range 1 << atoms {
		model := make([]bool, atoms)
		for i := range model {
			model[i] = x>>i%2 == 1
		}
		if !yield(model) {
			return
		}
	}
}

// hasModel tries all models.
func hasModel(atoms int, clauses lists) bool {
	found := false
	models(atoms, func(model []bool) bool {
		found = holds(clauses, model)
		return !found
	})
	return found
}

// follows reports whether a clause follows by propagation, in the words of the chapter.
func follows(clauses lists, step list) bool {
	isTrue := map[int]bool{}
	for _, l := range step {
		if slices.Contains(step, -l) {
			return true
		}
		isTrue[-l] = true
	}
	for {
		unit, left := 0, 0
		for _, c := range clauses {
			open := map[int]bool{}
			for _, l := range c {
				if !isTrue[-l] {
					open[l] = true
				}
			}
			if len(open) == 0 {
				return true
			}
			for l := range open {
				if len(open) == 1 && !isTrue[l] {
					unit, left = l, left+1
				}
			}
		}
		if left == 0 {
			return false
		}
		isTrue[unit] = true
	}
}

// refutes reports whether a proof is a refutation, in the words of the chapter; the clauses and the proof are valid.
func refutes(clauses, proof lists) bool {
	all := slices.Clone(clauses)
	for _, step := range proof {
		if !follows(all, step) {
			return false
		}
		all = append(all, step)
	}
	return len(proof) > 0 && len(proof[len(proof)-1]) == 0
}

// pigeons returns the number of atoms, and the clauses that say that this many pigeons are in this many holes, of which none has two.
func pigeons(many, holes int) (int, lists) {
	var clauses lists
	for p := range many {
		var somewhere list
		for h := range holes {
			somewhere = append(somewhere, p*holes+h+1)
			for q := range p {
				clauses = append(clauses, list{-(p*holes + h + 1), -(q*holes + h + 1)})
			}
		}
		clauses = append(clauses, somewhere)
	}
	return many * holes, clauses
}

// chain returns clauses by which the first atom makes all others true, one after the other.
func chain(atoms int) lists {
	var clauses lists
	for i := 1; i < atoms; i++ {
		clauses = append(clauses, list{-i, i + 1})
	}
	return clauses
}

// everything returns the clauses of all atoms, with all signs.
func everything(atoms int) lists {
	var clauses lists
	models(atoms, func(model []bool) bool {
		var c list
		for i, is := range model {
			if is {
				c = append(c, i+1)
			} else {
				c = append(c, -i-1)
			}
		}
		clauses = append(clauses, c)
		return true
	})
	return clauses
}

// copies returns the same clause this many times.
func copies(many int, c ...int) lists {
	out := make(lists, many)
	for i := range out {
		out[i] = c
	}
	return out
}

// ones returns the literal 1 this many times.
func ones(many int) list {
	c := make(list, many)
	for i := range c {
		c[i] = 1
	}
	return c
}

// twin copies clauses.
func twin(clauses lists) lists {
	var out lists
	for _, c := range clauses {
		out = append(out, slices.Clone(c))
	}
	return out
}

func same(a, b lists) bool {
	return slices.EqualFunc(a, b, func(x, y list) bool { return slices.Equal(x, y) })
}

// roomy copies clauses, with this many further elements between the length and the capacity of each list.
func roomy(clauses lists, room int) lists {
	out := make(lists, 0, len(clauses)+room)
	for _, c := range clauses {
		more := append(make(list, 0, len(c)+room), c...)
		for i := range room {
			more[:cap(more)][len(c)+i] = 7 + i
		}
		out = append(out, more)
	}
	for i := range room {
		out[:cap(out)][len(clauses)+i] = list{i}
	}
	return out
}

// whole returns clauses with all that their lists have room for.
func whole(clauses lists) lists {
	var out lists
	for _, c := range clauses[:cap(clauses)] {
		out = append(out, c[:cap(c)])
	}
	return out
}

// solved returns the solution of valid clauses, which has to be right.
func solved(t *testing.T, atoms int, clauses lists, limit int) api.Solution {
	t.Helper()
	s, e := solve.Solve(atoms, clauses, limit)
	if e != api.OK {
		t.Fatalf("%d %v: %d", atoms, clauses, e)
	}
	switch {
	case s.Answer != api.AnswerYes && len(s.Model) > 0, s.Answer != api.AnswerNo && len(s.Proof) > 0:
		t.Fatalf("%d %v %d: %v has what does not belong to it", atoms, clauses, limit, s)
	case s.Answer == api.AnswerYes:
		if len(s.Model) != atoms || !holds(clauses, s.Model) || !solve.Holds(clauses, s.Model) {
			t.Fatalf("%d %v %d: the model %v", atoms, clauses, limit, s.Model)
		}
	case s.Answer == api.AnswerNo:
		if len(s.Proof) > api.MaxSteps || !solve.Refutes(atoms, clauses, s.Proof) {
			t.Fatalf("%d %v %d: the refutation %v", atoms, clauses, limit, s.Proof)
		}
	case s.Answer != api.AnswerHard || atoms <= api.SolveSure:
		t.Fatalf("%d %v %d: the answer %d", atoms, clauses, limit, s.Answer)
	}
	return s
}

// A maker makes clauses by chance, always the same ones.
type maker struct{ *rand.Rand }

func newMaker(seed uint64) maker { return maker{rand.New(rand.NewPCG(seed, 5))} }

func (m maker) literal(atoms int) int {
	return (1 + m.IntN(atoms)) * (1 - 2*m.IntN(2))
}

// clause returns a valid clause, in which literals may occur twice and with both signs.
func (m maker) clause(atoms, length int) list {
	var c list
	for range length {
		c = append(c, m.literal(atoms))
	}
	return c
}

// clauses returns this many clauses of at most this length; few of them are shorter than two literals.
func (m maker) clauses(atoms, many, most int) lists {
	var out lists
	for range many {
		length := min(most, 2+m.IntN(most))
		if m.IntN(20) == 0 {
			length = m.IntN(2)
		}
		out = append(out, m.clause(atoms, length))
	}
	return out
}

// shuffled returns the clauses, and their literals, in another order.
func (m maker) shuffled(clauses lists) lists {
	out := twin(clauses)
	m.Shuffle(len(out), func(i, j int) { out[i], out[j] = out[j], out[i] })
	for _, c := range out {
		m.Shuffle(len(c), func(i, j int) { c[i], c[j] = c[j], c[i] })
	}
	return out
}

// changed returns clauses with one of them, or a literal, changed, put in or left out.
func (m maker) changed(atoms int, clauses lists) lists {
	out := twin(clauses)
	if len(out) == 0 {
		return lists{m.clause(atoms, m.IntN(3))}
	}
	i := m.IntN(len(out))
	switch m.IntN(6) {
	case 0:
		return slices.Delete(out, i, i+1)
	case 1:
		return slices.Insert(out, i, m.clause(atoms, m.IntN(3)))
	case 2:
		j := m.IntN(len(out))
		out[i], out[j] = out[j], out[i]
	case 3:
		out[i] = append(out[i], m.literal(atoms))
	default:
		if len(out[i]) > 0 {
			j := m.IntN(len(out[i]))
			if m.IntN(2) == 0 {
				out[i][j] = m.literal(atoms)
			} else {
				out[i] = slices.Delete(out[i], j, j+1)
			}
		}
	}
	return out
}
