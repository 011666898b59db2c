package solve

// learnFrom learns a clause from one whose literals are all false, goes back to where all but one literal of the learned clause are false, and makes that one true.
func (s *search) learnFrom(conflict int) {
	seen := map[int]bool{}
	literal, others := s.trace(conflict, seen)
	learned := join(-literal, s.needed(others, seen)...)
	s.steps = append(s.steps, learned)
	s.order.age()
	if len(learned) == 1 {
		s.retreat(0)
		s.makeTrue(learned[0], none)
		return
	}
	latest := s.latest(learned)
	s.retreat(s.levels[atomOf(learned[latest])])
	s.makeTrue(learned[0], s.watch(learned, 0, latest))
}

// join puts the literals of a clause together.
func join(first int, others ...int) []int {
	return append([]int{first}, others...)
}

// trace goes back along the trail from a contradiction to the last literal which, together with literals of earlier levels, leads to it. It returns this literal, and the negatives of the others.
func (s *search) trace(conflict int, seen map[int]bool) (int, []int) {
	var others []int
	open := s.note(conflict, seen, &others)
	for i := len(s.trail) - 1; ; i-- {
		literal := s.trail[i]
		if !seen[atomOf(literal)] {
			continue
		}
		open--
		if open == 0 {
			return literal, others
		}
		open += s.note(s.reasons[atomOf(literal)], seen, &others)
	}
}

// note marks the literals of a clause that have not been seen, except those that are false without assumptions. (A true one is that whose reason the clause is, which has been seen.) It adds those of earlier levels to the others, and returns the number of those of this level.
func (s *search) note(number int, seen map[int]bool, others *[]int) int {
	here := 0
	for _, literal := range s.clauses[number].literals {
		atom := atomOf(literal)
		if s.levels[atom] == 0 || seen[atom] {
			continue
		}
		seen[atom] = true
		if !s.fixed {
			s.order.raise(atom)
		}
		if s.levels[atom] == s.level() {
			here++
		} else {
			*others = append(*others, literal)
		}
	}
	return here
}

// needed returns the literals without those whose atoms have their values because of the other ones.
func (s *search) needed(literals []int, seen map[int]bool) []int {
	known := map[int]bool{}
	var kept []int
	for _, literal := range literals {
		reason := s.reasons[atomOf(literal)]
		if reason == none || !s.implied(reason, seen, known) {
			kept = append(kept, literal)
		}
	}
	return kept
}

// implied reports whether all false literals of a clause are false because of atoms that have been seen.
func (s *search) implied(number int, seen, known map[int]bool) bool {
	for _, literal := range s.clauses[number].literals {
		atom := atomOf(literal)
		if s.value(literal) != isFalse || s.levels[atom] == 0 || seen[atom] {
			continue
		}
		fine, found := known[atom]
		if !found {
			reason := s.reasons[atom]
			fine = reason != none && s.implied(reason, seen, known)
			known[atom] = fine
		}
		if !fine {
			return false
		}
	}
	return true
}

// latest returns the place of a literal, other than the first, that has become false last.
func (s *search) latest(literals []int) int {
	best := 1
	for i := 2; i < len(literals); i++ {
		if s.levels[atomOf(literals[i])] > s.levels[atomOf(literals[best])] {
			best = i
		}
	}
	return best
}
