package solve

// none stands for a clause where there is none.
const none = -1

// fact is the truth value of a literal.
type fact int8

const (
	isFalse fact = -1
	isOpen  fact = 0
	isSure  fact = 1
)

// facts are the literals that have been made true, and what is needed to find those that follow from them.
type facts struct {
	clauses []clause
	watches [][]watch // for each literal, by its place, the clauses that watch it
	values  []fact    // for each literal, by its place
	levels  []int     // for each atom, how many literals had been assumed when it got its value
	reasons []int     // for each atom, the clause that gave it its value, or none
	trail   []int     // the true literals, in the order in which they became true
	starts  []int     // for each assumed literal, how many were true before it
	done    int       // how many of the trail have been propagated
	refuted bool      // whether a contradiction follows without any assumption
}

// clause watches two different literals of a list, of which none is false unless the other is true or all are false. The list itself may be an argument of the caller, so it is never changed.
type clause struct {
	literals      []int
	first, second int // the places of the watched literals
}

// watch is a clause that watches a literal. If the other literal is true, there is no need to look at the clause.
type watch struct {
	clause, other int
}

// place returns where a literal has its place in the tables of literals.
func place(literal int) int {
	if literal < 0 {
		return -2*literal + 1
	}
	return 2 * literal
}

func atomOf(literal int) int { return max(literal, -literal) }

// newFacts returns what follows from the clauses by propagation.
func newFacts(atoms int, clauses [][]int) *facts {
	f := &facts{
		clauses: make([]clause, 0, len(clauses)),
		watches: make([][]watch, 2*atoms+2),
		values:  make([]fact, 2*atoms+2),
		levels:  make([]int, atoms+1),
		reasons: make([]int, atoms+1),
	}
	for _, c := range clauses {
		f.add(c)
	}
	f.settle()
	return f
}

func (f *facts) value(literal int) fact { return f.values[place(literal)] }

func (f *facts) level() int { return len(f.starts) }

// makeTrue makes an open literal true, because of a clause.
func (f *facts) makeTrue(literal, reason int) {
	f.values[place(literal)], f.values[place(-literal)] = isSure, isFalse
	f.levels[atomOf(literal)], f.reasons[atomOf(literal)] = f.level(), reason
	f.trail = append(f.trail, literal)
}

// assume makes an open literal true without a reason.
func (f *facts) assume(literal int) {
	f.starts = append(f.starts, len(f.trail))
	f.makeTrue(literal, none)
}

// back takes back all that has been assumed since there were this many assumptions, and what followed from it.
func (f *facts) back(level int) {
	if level >= f.level() {
		return
	}
	start := f.starts[level]
	for _, literal := range f.trail[start:] {
		f.values[place(literal)], f.values[place(-literal)] = isOpen, isOpen
	}
	f.trail, f.starts, f.done = f.trail[:start], f.starts[:level], start
}

// add adds a clause while nothing is assumed, so that literals that are false now stay false.
func (f *facts) add(literals []int) {
	first := f.notFalse(literals, 0, 0)
	if first == len(literals) {
		f.refuted = true
		return
	}
	second := f.notFalse(literals, first+1, literals[first])
	switch {
	case second < len(literals):
		f.watch(literals, first, second)
	case f.value(literals[first]) == isOpen:
		f.makeTrue(literals[first], none)
	}
}

// notFalse returns the first place, from start on, of a literal that is not false, and is not the one to be left out.
func (f *facts) notFalse(literals []int, start, leftOut int) int {
	for i := start; i < len(literals); i++ {
		if literals[i] != leftOut && f.value(literals[i]) != isFalse {
			return i
		}
	}
	return len(literals)
}

// watch adds a clause that watches the literals at these places, and returns its number.
func (f *facts) watch(literals []int, first, second int) int {
	n := len(f.clauses)
	f.clauses = append(f.clauses, clause{literals, first, second})
	a, b := literals[first], literals[second]
	f.watches[place(a)] = append(f.watches[place(a)], watch{n, b})
	f.watches[place(b)] = append(f.watches[place(b)], watch{n, a})
	return n
}

// settle propagates while nothing is assumed.
func (f *facts) settle() {
	if !f.refuted && f.propagate() != none {
		f.refuted = true
	}
}

// propagate makes literals true as long as a clause asks for it, and returns a clause whose literals are all false, or none.
func (f *facts) propagate() int {
	for f.done < len(f.trail) {
		literal := -f.trail[f.done]
		f.done++
		if conflict := f.visit(literal); conflict != none {
			return conflict
		}
	}
	return none
}

// visit looks at the clauses that watch a literal that has become false, and returns one whose literals are all false, or none.
func (f *facts) visit(literal int) int {
	list := f.watches[place(literal)]
	kept := list[:0]
	for i, w := range list {
		if f.value(w.other) == isSure {
			kept = append(kept, w)
			continue
		}
		if f.moved(w.clause, literal) {
			continue
		}
		c := &f.clauses[w.clause]
		other := c.literals[c.second]
		kept = append(kept, watch{w.clause, other})
		switch f.value(other) {
		case isFalse:
			f.watches[place(literal)] = append(kept, list[i+1:]...)
			return w.clause
		case isOpen:
			f.makeTrue(other, w.clause)
		}
	}
	f.watches[place(literal)] = kept
	return none
}

// moved lets a clause watch another literal instead of one that has become false, and reports whether there is one. The false literal is the first one afterwards if there is none. The search goes around from where the last one ended: it would take the square of the time from the left end.
func (f *facts) moved(number, literal int) bool {
	c := &f.clauses[number]
	if c.literals[c.first] != literal {
		c.first, c.second = c.second, c.first
	}
	other := c.literals[c.second]
	if f.value(other) == isSure {
		return false
	}
	to := f.notFalse(c.literals, c.first+1, other)
	if to == len(c.literals) {
		to = f.notFalse(c.literals[:c.first], 0, other)
	}
	if to == c.first {
		return false
	}
	c.first = to
	next := c.literals[to]
	f.watches[place(next)] = append(f.watches[place(next)], watch{number, other})
	return true
}

// follows reports whether a clause follows by propagation, while nothing else is assumed. A literal that is true already leads to a contradiction at once, be it because its negative is in the clause too.
func (f *facts) follows(literals []int) bool {
	if f.refuted {
		return true
	}
	defer f.back(0)
	for _, literal := range literals {
		switch f.value(literal) {
		case isSure:
			return true
		case isOpen:
			f.assume(-literal)
		}
	}
	return f.propagate() != none
}
