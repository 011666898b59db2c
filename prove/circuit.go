package prove

import (
	"slices"

	"retarget/api"
	"retarget/blast"
	"retarget/solve"
)

// solved lets the solver look for values of the variables of t for which its value is 0. A term whose circuit is too great is hard.
func solved(t api.Term, vars []api.Binding, limit int) api.Verdict {
	hard := api.Verdict{Answer: api.AnswerHard}
	c, e := blast.Blast(t)
	if e != api.OK {
		return hard
	}
	c = needed(c)
	c.Outputs[0] ^= 1
	// The solver would need a step to see this, and the limit may be 0.
	if c.Outputs[0] == 0 {
		return api.Verdict{Answer: api.AnswerYes}
	}
	atoms, clauses, e := blast.Clauses(c, 0)
	if e != api.OK {
		return hard
	}
	s, _ := solve.Solve(atoms, clauses, limit)
	switch s.Answer {
	case api.AnswerYes:
		return api.Verdict{Answer: api.AnswerNo, Example: bound(vars, s.Model)}
	case api.AnswerNo:
		return api.Verdict{Answer: api.AnswerYes}
	}
	return hard
}

// bound returns the values of the variables in a model of the clauses of a circuit. The atoms of its inputs come after that of node 0.
func bound(vars []api.Binding, model []bool) []api.Binding {
	env, at := slices.Clone(vars), 1
	for i, v := range env {
		for bit := range v.Width {
			if model[at] {
				env[i].Bits |= 1 << bit
			}
			at++
		}
	}
	return env
}

// needed returns the circuit without the gates that its outputs do not depend on: there are often so many of them that there would be too many atoms.
func needed(c api.Circuit) api.Circuit {
	first := 1 + len(c.Inputs)
	uses := make([]bool, first+len(c.Gates))
	for _, output := range c.Outputs {
		uses[output/2] = true
	}
	for i, g := range slices.Backward(c.Gates) {
		if uses[first+i] {
			uses[g.A/2], uses[g.B/2] = true, true
		}
	}
	numbers := make([]int, len(uses))
	moved := func(l int) int { return 2*numbers[l/2] + l%2 }
	out := api.Circuit{Inputs: c.Inputs}
	for i := range numbers {
		numbers[i] = first + len(out.Gates)
		switch {
		case i < first:
			numbers[i] = i
		case uses[i]:
			g := c.Gates[i-first]
			out.Gates = append(out.Gates, api.CircuitGate{A: moved(g.A), B: moved(g.B)})
		}
	}
	for _, output := range c.Outputs {
		out.Outputs = append(out.Outputs, moved(output))
	}
	return out
}
