package prove

import (
	"cmp"
	"slices"
	"strings"

	"retarget/api"
)

// ordered returns t with the parts of all operations for which their order does not matter in the order of compare.
func ordered(t api.Term) api.Term {
	t.Sub = slices.Clone(t.Sub)
	for i, part := range t.Sub {
		t.Sub[i] = ordered(part)
	}
	switch t.Kind {
	case api.TermAdd, api.TermMul, api.TermAnd, api.TermOr, api.TermXor, api.TermEq:
		slices.SortFunc(t.Sub, compare)
	}
	return t
}

// compare puts constants last: a product has the smallest circuit if its second factor is one.
func compare(a, b api.Term) int {
	return cmp.Or(
		cmp.Compare(b.Kind, a.Kind), cmp.Compare(a.Width, b.Width), cmp.Compare(a.Bits, b.Bits),
		strings.Compare(a.Name, b.Name), cmp.Compare(a.Low, b.Low), slices.CompareFunc(a.Sub, b.Sub, compare),
	)
}
