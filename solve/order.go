package solve

const (
	lightest = 1 << 10 // the weight that is added first
	heaviest = 1 << 50 // from here on all weights get smaller by lighter bits, so that none of them wraps around
	lighter  = 40
)

// order is a heap of atoms. Those that had to do with the latest contradictions have the greatest weights and come first; those of equal weights are in the order of their numbers.
type order struct {
	heap    []int
	places  []int // for each atom, its place in the heap, or none
	weights []uint64
	added   uint64 // the weight that is added next
}

func newOrder(atoms int) *order {
	o := &order{places: make([]int, atoms+1), weights: make([]uint64, atoms+1), added: lightest}
	for atom := 1; atom <= atoms; atom++ {
		o.places[atom] = len(o.heap)
		o.heap = append(o.heap, atom)
	}
	return o
}

func (o *order) isEmpty() bool { return len(o.heap) == 0 }

// before reports whether an atom comes before another one.
func (o *order) before(a, b int) bool {
	if o.weights[a] != o.weights[b] {
		return o.weights[a] > o.weights[b]
	}
	return a < b
}

func (o *order) set(at, atom int) {
	o.heap[at], o.places[atom] = atom, at
}

func (o *order) up(at int) {
	atom := o.heap[at]
	for at > 0 && o.before(atom, o.heap[(at-1)/2]) {
		o.set(at, o.heap[(at-1)/2])
		at = (at - 1) / 2
	}
	o.set(at, atom)
}

func (o *order) down(at int) {
	atom := o.heap[at]
	for 2*at+1 < len(o.heap) {
		child := 2*at + 1
		if child+1 < len(o.heap) && o.before(o.heap[child+1], o.heap[child]) {
			child++
		}
		if !o.before(o.heap[child], atom) {
			break
		}
		o.set(at, o.heap[child])
		at = child
	}
	o.set(at, atom)
}

// take removes the first atom.
func (o *order) take() int {
	atom := o.heap[0]
	last := len(o.heap) - 1
	o.set(0, o.heap[last])
	o.heap = o.heap[:last]
	o.places[atom] = none
	if last > 0 {
		o.down(0)
	}
	return atom
}

// put adds an atom if it is not there.
func (o *order) put(atom int) {
	if o.places[atom] == none {
		o.heap = append(o.heap, atom)
		o.up(len(o.heap) - 1)
	}
}

// raise adds to the weight of an atom.
func (o *order) raise(atom int) {
	o.weights[atom] += o.added
	if o.places[atom] != none {
		o.up(o.places[atom])
	}
}

// age lets what is added later weigh more, which is the same as letting all weights shrink.
func (o *order) age() {
	o.added += o.added / 32
	if o.added < heaviest {
		return
	}
	o.added >>= lighter
	for atom := range o.weights {
		o.weights[atom] >>= lighter
	}
	// Weights that differed may be equal now, which changes the order.
	for at := len(o.heap)/2 - 1; at >= 0; at-- {
		o.down(at)
	}
}
