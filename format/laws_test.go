package format_test

import (
	"slices"
	"testing"

	"retarget/api"
	"retarget/format"
	"retarget/machine"
)

func TestP9_4PutAndGet(t *testing.T) {
	r := newRandom(4)
	for range 20000 {
		size := 1 + r.IntN(64)
		l := r.layout(size, 4)
		word, field := r.below(size), r.below(len(bitsOf(l)))
		if x := must(format.Get(size, must(format.Put(size, word, l, field)), l)); x != field {
			t.Fatalf("%d %x %v: %x became %x", size, word, l, field, x)
		}
		if x := must(format.Put(size, word, l, must(format.Get(size, word, l)))); x != word {
			t.Fatalf("%d %v: %x became %x", size, l, word, x)
		}
	}
}

// TestP9_4Apart puts fields of layouts without a common bit into one word.
func TestP9_4Apart(t *testing.T) {
	r := newRandom(5)
	for range 20000 {
		size := 1 + r.IntN(64)
		all := r.layout(size, 4)
		cut := r.IntN(len(all) + 1)
		a, b := all[:cut], all[cut:]
		if must(format.Mask(size, a))&must(format.Mask(size, b)) != 0 {
			t.Fatalf("%d %v %v have a common bit", size, a, b)
		}
		word, x, y := r.below(size), r.below(len(bitsOf(a))), r.below(len(bitsOf(b)))
		withA := must(format.Put(size, word, a, x))
		if must(format.Get(size, withA, b)) != must(format.Get(size, word, b)) {
			t.Fatalf("%d %x: %v disturbs %v", size, word, a, b)
		}
		both := must(format.Put(size, withA, b, y))
		if must(format.Put(size, must(format.Put(size, word, b, y)), a, x)) != both || must(format.Get(size, both, a)) != x {
			t.Fatalf("%d %x: %v and %v, one after the other", size, word, a, b)
		}
	}
}

// TestP9_4Divided puts two pieces in the place of one.
func TestP9_4Divided(t *testing.T) {
	r := newRandom(6)
	for range 20000 {
		size := 2 + r.IntN(63)
		l := r.layout(size, 3)
		i := slices.IndexFunc(l, func(p api.MachPiece) bool { return p.Len > 1 })
		if i < 0 {
			continue
		}
		p := l[i]
		cut := 1 + r.IntN(p.Len-1)
		two := slices.Replace(slices.Clone(l), i, i+1, layout(p.At, cut, p.At+cut, p.Len-cut)...)
		word, field := r.below(size), r.below(len(bitsOf(l)))
		if must(format.Get(size, word, l)) != must(format.Get(size, word, two)) || must(format.Put(size, word, l, field)) != must(format.Put(size, word, two, field)) || must(format.Mask(size, l)) != must(format.Mask(size, two)) {
			t.Fatalf("%d %x: %v and %v", size, word, l, two)
		}
	}
}

// TestP9_4FieldAndNumber goes through all fields of small widths, and all numbers near them.
func TestP9_4FieldAndNumber(t *testing.T) {
	for _, kind := range kinds {
		for width := 1; width <= 9; width++ {
			for scale := range 4 {
				low, high, _ := format.Range(kind, width, scale)
				met := map[int]bool{}
				for field := range uint64(1) << width {
					n := must(format.Number(kind, width, scale, field))
					met[n] = true
					if must(format.Field(kind, width, scale, n)) != field {
						t.Fatalf("%d %d %d: %d of the field %x", kind, width, scale, n, field)
					}
				}
				for n := low - 40; n <= high+40; n++ {
					_, e := format.Field(kind, width, scale, n)
					in := n >= low && n <= high && n%(1<<scale) == 0
					if in != met[n] || in != (e == api.OK) || !in && e != api.ErrRange {
						t.Fatalf("%d %d %d: %d: %v %d", kind, width, scale, n, met[n], e)
					}
				}
			}
		}
	}
}

func TestP9_4Wide(t *testing.T) {
	r := newRandom(7)
	for range 20000 {
		kind, width, scale := kinds[r.IntN(3)], 1+r.IntN(32), r.IntN(4)
		field := r.below(width)
		n := must(format.Number(kind, width, scale, field))
		low, high, _ := format.Range(kind, width, scale)
		if must(format.Field(kind, width, scale, n)) != field || n < low || n > high {
			t.Fatalf("%d %d %d: %d of the field %x", kind, width, scale, n, field)
		}
		least := must(format.Fit(kind, scale, n))
		for w := 1; w <= 32; w++ {
			if _, e := format.Field(kind, w, scale, n); (e == api.OK) != (w >= least) {
				t.Fatalf("%d %d %d: %d fits from %d on: %d", kind, w, scale, n, least, e)
			}
		}
	}
}

// TestP9_4Machines holds the fields of the given machines against the numbers that machine.CheckOp accepts.
func TestP9_4Machines(t *testing.T) {
	for k := range 3 {
		m := api.Given(k)
		for i, instr := range m.Instrs {
			taken, op := instr.Mask, api.MachOp{Instr: i}
			for _, o := range instr.Operands {
				mask := must(format.Mask(8*m.Word, o.Pieces))
				if taken&mask != 0 {
					t.Errorf("%s %s: %s has bits of others", m.Name, instr.Name, o.Name)
				}
				taken |= mask
				arg := 0
				if o.Kind == api.OperandReg {
					arg = m.Banks[o.Bank].Regs[0]
				}
				op.Args = append(op.Args, arg)
			}
			agreesWithMachine(t, m, op)
		}
	}
}

// agreesWithMachine tries other numbers in the place of each one in op, which fits m.
func agreesWithMachine(t *testing.T, m api.Machine, op api.MachOp) {
	t.Helper()
	for at, o := range m.Instrs[op.Instr].Operands {
		if o.Kind == api.OperandReg {
			continue
		}
		width := len(bitsOf(o.Pieces))
		for _, n := range numbersNear(o.Kind, width, o.Scale) {
			other := api.MachOp{Instr: op.Instr, Args: slices.Clone(op.Args)}
			other.Args[at] = n
			_, e := format.Field(o.Kind, width, o.Scale, n)
			if want := machine.CheckOp(m, other); e != want {
				t.Errorf("%s %s %d: %d, not %d", m.Name, o.Name, n, e, want)
			}
		}
	}
}
