package term

import (
	"iter"
	"math"
	"slices"

	"retarget/api"
)

// nodes yields the nodes of t, each before its parts, with the number of nodes on the way from the root to it.
func nodes(t api.Term) iter.Seq2[int, api.Term] {
	return func(yield func(int, api.Term) bool) {
		var visit func(depth int, t api.Term) bool
		visit = func(depth int, t api.Term) bool {
			if !yield(depth, t) {
				return false
			}
			for _, part := range t.Sub {
				if !visit(depth+1, part) {
					return false
				}
			}
			return true
		}
		visit(1, t)
	}
}

// A place tells lists of parts apart by where they are. Any term may be measured and compared, also one whose parts share memory so that it has far more nodes than memory has room for, or that contains itself: lists in a place that was met before are not gone through again.
type place struct {
	first *api.Term
	many  int
}

// placeOf returns the place of a list that is not empty.
func placeOf(parts []api.Term) place { return place{&parts[0], len(parts)} }

// An extent is a number of nodes, and of those on the longest way down.
type extent struct{ size, depth int }

// measured returns the extent of t. Numbers that are too great, as those of a term that contains itself, are math.MaxInt.
func measured(t api.Term) extent {
	known := map[place]extent{}
	var under func(parts []api.Term) extent
	under = func(parts []api.Term) extent {
		if len(parts) == 0 {
			return extent{}
		}
		at := placeOf(parts)
		if sum, met := known[at]; met {
			return sum
		}
		// This is what is found if the list is met again below itself.
		known[at] = extent{math.MaxInt, math.MaxInt}
		sum := extent{}
		for i := range parts {
			below := under(parts[i].Sub)
			sum = extent{plus(sum.size, plus(below.size, 1)), max(sum.depth, plus(below.depth, 1))}
		}
		known[at] = sum
		return sum
	}
	return under([]api.Term{t})
}

// plus returns the sum of two numbers that are not negative, or math.MaxInt if it is too great.
func plus(a, b int) int {
	if a > math.MaxInt-b {
		return math.MaxInt
	}
	return a + b
}

// Size returns the number of nodes of any term.
func Size(t api.Term) int { return measured(t).size }

// Depth returns the number of nodes on the longest way down in any term.
func Depth(t api.Term) int { return measured(t).depth }

// Same reports whether two terms are identical.
func Same(a, b api.Term) bool {
	met := map[[2]place]bool{}
	rest := [][2]*api.Term{{&a, &b}}
	for len(rest) > 0 {
		last := len(rest) - 1
		x, y := rest[last][0], rest[last][1]
		rest = rest[:last]
		if !alike(x, y) {
			return false
		}
		if len(x.Sub) == 0 {
			continue
		}
		both := [2]place{placeOf(x.Sub), placeOf(y.Sub)}
		if both[0] == both[1] || met[both] {
			continue
		}
		met[both] = true
		for i := range x.Sub {
			rest = append(rest, [2]*api.Term{&x.Sub[i], &y.Sub[i]})
		}
	}
	return true
}

// alike reports whether two terms are identical, but for what their parts are.
func alike(a, b *api.Term) bool {
	return a.Kind == b.Kind && a.Width == b.Width && a.Bits == b.Bits && a.Name == b.Name && a.Low == b.Low && len(a.Sub) == len(b.Sub)
}

// Twin returns a copy of t, or the zero term if t has more nodes than the document allows for a result.
func Twin(t api.Term) api.Term {
	if Size(t) > math.MaxInt32 {
		return api.Term{}
	}
	return copied(t)
}

// copied needs no stack, so that the nesting of t has no bound.
func copied(t api.Term) api.Term {
	rest := []*api.Term{&t}
	for len(rest) > 0 {
		last := len(rest) - 1
		n := rest[last]
		rest = rest[:last]
		n.Sub = slices.Clone(n.Sub)
		for i := range n.Sub {
			rest = append(rest, &n.Sub[i])
		}
	}
	return t
}
