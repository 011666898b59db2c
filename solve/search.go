package solve

import "retarget/api"

// patience, times a number that pause returns, is the number of steps after which the search starts anew with what it has learned.
const patience = 32

// search assumes literals one after the other. Whenever a contradiction follows, it learns a clause, which becomes a step of the refutation.
type search struct {
	*facts
	order   *order
	guesses []bool // for each atom, the value it had last
	steps   [][]int
	turns   int  // how often the search has started anew
	waited  int  // the steps since then
	fixed   bool // whether the order of the atoms stays the same
}

// newSearch returns a search that has assumed nothing. With few atoms it takes them in a fixed order: each of n atoms, in order, then meets at most as many contradictions, for each of the values of those before it, as there are atoms after it, because each contradiction fixes one more of them. So there are at most 2^n - n steps, which is less than MaxSteps for SolveSure atoms.
func newSearch(atoms int, clauses [][]int) *search {
	return &search{
		facts:   newFacts(atoms, clauses),
		order:   newOrder(atoms),
		guesses: make([]bool, atoms+1),
		fixed:   atoms <= api.SolveSure,
	}
}

// run searches for a model, or a refutation of at most so many steps.
func (s *search) run(most int) api.Solution {
	answer := api.AnswerHard
search:
	for {
		conflict := s.propagate()
		switch {
		case conflict == none && !s.refuted:
			if !s.guess() {
				answer = api.AnswerYes
				break search
			}
		case len(s.steps) == most:
			break search
		case s.refuted || s.level() == 0:
			s.steps = append(s.steps, nil)
			answer = api.AnswerNo
			break search
		default:
			s.learnFrom(conflict)
			s.restart()
		}
	}
	return s.solution(answer)
}

func (s *search) solution(answer uint8) api.Solution {
	switch answer {
	case api.AnswerYes:
		return api.Solution{Answer: answer, Model: s.model()}
	case api.AnswerNo:
		return api.Solution{Answer: answer, Proof: s.steps}
	}
	return api.Solution{Answer: answer}
}

// model returns the values of the atoms, all of which have one.
func (s *search) model() []bool {
	model := make([]bool, len(s.levels)-1)
	for i := range model {
		model[i] = s.value(i+1) == isSure
	}
	return model
}

// guess assumes a value for the next open atom, and reports whether there was one.
func (s *search) guess() bool {
	for !s.order.isEmpty() {
		atom := s.order.take()
		if s.value(atom) != isOpen {
			continue
		}
		if s.guesses[atom] {
			s.assume(atom)
		} else {
			s.assume(-atom)
		}
		return true
	}
	return false
}

// retreat goes back to this many assumptions. Atoms that are open again can be guessed again, at first with the same value.
func (s *search) retreat(level int) {
	if level >= s.level() {
		return
	}
	for _, literal := range s.trail[s.starts[level]:] {
		s.guesses[atomOf(literal)] = literal > 0
		s.order.put(atomOf(literal))
	}
	s.back(level)
}

// restart gives up all assumptions from time to time, after more steps the more often it has done so: otherwise a few bad guesses at the start could cost the whole search.
func (s *search) restart() {
	s.waited++
	if s.waited < patience*pause(s.turns) {
		return
	}
	s.waited = 0
	s.turns++
	s.retreat(0)
}

// pause is the series of Luby: 1, 1, 2, 1, 1, 2, 4, 1, 1, 2, 1, 1, 2, 4, 8, and so on.
func pause(n int) int {
	size, power := 1, 1
	for size < n+1 {
		size, power = 2*size+1, 2*power
	}
	for size-1 != n {
		size, power = (size-1)/2, power/2
		n %= size
	}
	return power
}
