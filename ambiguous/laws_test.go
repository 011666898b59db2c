package ambiguous_test

import (
	"reflect"
	"slices"
	"testing"

	"retarget/ambiguous"
	"retarget/api"
	"retarget/term"
)

// example is the machine of the chapter's example.
func example() api.Machine {
	return made(1, instr(128, 128, number(api.OperandUnsigned, 0, 0, 7)), instr(64, 64, number(api.OperandSigned, 0, 0, 6, 7, 1)))
}

func TestExample(t *testing.T) {
	m := example()
	if l, e := ambiguous.Clashes(m); !slices.Equal(l, []api.MachClash{{A: 0, B: 1, Word: 192}}) || e != api.OK {
		t.Error(l, e)
	}
	holesAre(t, m, 0, 256, upTo(0, 64))
	if n, e := ambiguous.Count(m, 0); n != 128 || e != api.OK {
		t.Error(n, e)
	}
}

// TestP11_4Clash has the words of clashes and of pairs without one, for machines with words of all sizes.
func TestP11_4Clash(t *testing.T) {
	r := newMaker(6)
	met := 0
	for i := range 400 {
		m := r.machine(1+i%4, 6)
		clashes := must(ambiguous.Clashes(m))
		met += len(clashes)
		for _, c := range clashes {
			if !must(ambiguous.Legal(m, c.A, c.Word)) || !must(ambiguous.Legal(m, c.B, c.Word)) || c.A >= c.B {
				t.Fatalf("%v: %v", m.Instrs, c)
			}
		}
		for range 10 {
			word := r.word(m)
			l := must(ambiguous.Owners(m, word))
			for at, b := range l {
				for _, a := range l[:at] {
					k := slices.IndexFunc(clashes, func(c api.MachClash) bool { return c.A == a && c.B == b })
					if k < 0 || word < clashes[k].Word {
						t.Fatalf("%v: %v, but %d and %d have %x", m.Instrs, clashes, a, b, word)
					}
				}
			}
		}
	}
	if met < 300 {
		t.Error(met)
	}
}

// TestP11_4Same has the least word of each instruction, which is its Match.
func TestP11_4Same(t *testing.T) {
	r := newMaker(7)
	all := []api.Machine{api.Given(0), api.Given(1), api.Given(2), example()}
	for i := range 200 {
		all = append(all, r.machine(1+i%4, 6))
	}
	for _, m := range all {
		for i, x := range m.Instrs {
			if word, is, e := ambiguous.Common(m, i, i); word != x.Match || !is || e != api.OK {
				t.Fatalf("%v: %x %v %v", x, word, is, e)
			}
			if !must(ambiguous.Legal(m, i, x.Match)) {
				t.Fatalf("%v: its match is not legal", x)
			}
		}
	}
}

// allHoles returns all holes of a machine.
func allHoles(m api.Machine) []uint64 {
	var l []uint64
	for from := uint64(0); from < limit(m); from += api.MaxHoles {
		l = append(l, must(ambiguous.Holes(m, from, int(min(api.MaxHoles, limit(m)-from))))...)
	}
	return l
}

// TestP11_4All has machines without clashes: their holes and legal words are all words, each of them once.
func TestP11_4All(t *testing.T) {
	r := newMaker(8)
	all := []api.Machine{api.Given(1), made(1), made(2)}
	for len(all) < 60 {
		if m := r.machine(1, 5); len(must(ambiguous.Clashes(m))) == 0 {
			all = append(all, m)
		}
	}
	for _, m := range all {
		words := uint64(len(allHoles(m)))
		for i := range m.Instrs {
			words += must(ambiguous.Count(m, i))
		}
		if words != limit(m) {
			t.Errorf("%v: %d words", m.Instrs, words)
		}
		for range 20 {
			word := r.word(m)
			owners := must(ambiguous.Owners(m, word))
			holes := 0
			if word < limit(m) {
				holes = len(must(ambiguous.Holes(m, word, 1)))
			}
			if len(owners)+holes != 1 {
				t.Errorf("%v: %x has the owners %v, and %d holes", m.Instrs, word, owners, holes)
			}
		}
	}
}

// visit calls a function with each list in a value, inner ones last.
func visit(v reflect.Value, list func(reflect.Value)) {
	switch v.Kind() {
	case reflect.Struct:
		for i := range v.NumField() {
			visit(v.Field(i), list)
		}
	case reflect.Slice:
		list(v)
		for i := range v.Len() {
			visit(v.Index(i), list)
		}
	}
}

// filled returns a machine in which each list has room for more, and something stands there.
func filled(m api.Machine) api.Machine {
	visit(reflect.ValueOf(&m).Elem(), func(l reflect.Value) {
		if n := l.Len(); n > 0 {
			more := reflect.AppendSlice(reflect.MakeSlice(l.Type(), 0, n+2), l)
			l.Set(reflect.Append(more, l.Index(n-1), l.Index(0)).Slice(0, n))
		}
	})
	return m
}

// wholeOf copies all that the lists of a machine have room for.
func wholeOf(m api.Machine) []any {
	var all []any
	visit(reflect.ValueOf(&m).Elem(), func(l reflect.Value) {
		whole := l.Slice(0, l.Cap())
		for i := range whole.Len() {
			if x := whole.Index(i); x.Kind() != reflect.Struct {
				all = append(all, x.Interface())
			} else if s, is := x.Interface().(api.MachPiece); is {
				all = append(all, s)
			} else {
				all = append(all, x.Field(0).Interface(), x.Field(1).Interface())
			}
		}
	})
	return all
}

// results are what all functions return for a machine and some other arguments.
func results(m api.Machine) []any {
	var all []any
	note := func(x ...any) { all = append(all, x...) }
	for _, i := range []int{-1, 0, 1, len(m.Instrs) - 1, len(m.Instrs)} {
		for _, word := range []uint64{0, 64, 192, limit(m) - 1, limit(m)} {
			is, e := ambiguous.Legal(m, i, word)
			l, f := ambiguous.Owners(m, word)
			holes, g := ambiguous.Holes(m, word, 5*i)
			note(is, e, l, f, holes, g)
		}
		word, is, e := ambiguous.Common(m, i, 0)
		n, f := ambiguous.Count(m, i)
		note(word, is, e, n, f)
	}
	clashes, e := ambiguous.Clashes(m)
	note(clashes, e)
	return all
}

// TestR2 spoils what is returned, and makes the same calls again, with others in between; arguments are only read.
func TestR2(t *testing.T) {
	for _, m := range []api.Machine{filled(api.Given(0)), filled(api.Given(2)), filled(example()), filled(api.Machine{Instrs: api.Given(1).Instrs})} {
		kept := wholeOf(m)
		want := results(m)
		spoilt := results(m)
		for _, x := range spoilt {
			visit(reflect.ValueOf(x), func(l reflect.Value) {
				for i := range l.Cap() {
					l.Slice(0, l.Cap()).Index(i).SetZero()
				}
			})
		}
		results(api.Given(1))
		if again := results(m); !reflect.DeepEqual(again, want) {
			t.Errorf("%s: %v, not %v", m.Name, again, want)
		}
		if !reflect.DeepEqual(wholeOf(m), kept) {
			t.Errorf("%s was changed", m.Name)
		}
	}
}

// TestR3 has lists without anything in both forms.
func TestR3(t *testing.T) {
	m := made(1, instr(0xff, 1), instr(0xf0, 0x10, register(bank3, 0, 2), tied(bank3, 0)))
	want := results(m)
	m.Instrs[0].Operands, m.Instrs[0].Effects, m.Instrs[1].Operands[1].Pieces = []api.MachOperand{}, []api.MachEffect{}, []api.MachPiece{}
	if l := results(m); !reflect.DeepEqual(l, want) {
		t.Errorf("%v, not %v", l, want)
	}
	bare := made(1)
	bare.Banks, bare.Instrs = []api.MachBank{}, []api.MachInstr{}
	if l, want := results(bare), results(made(1)); !reflect.DeepEqual(l, want) {
		t.Errorf("%v, not %v", l, want)
	}
}

// TestEffects has machines that differ in what is not about words.
func TestEffects(t *testing.T) {
	m := example()
	want := results(m)
	m.Instrs[0].Effects = []api.MachEffect{{Kind: api.EffectTrap, Value: must(term.Parse("(add a:32 a:32)"))}}
	m.Instrs[1].Unit, m.Instrs[1].Busy, m.Instrs[1].Latency = 0, 15, 15
	m.Name, m.Address, m.Instrs[0].Operands[0].Scale = "other", 16, 3
	m.Instrs[0].Effects[0].Value = must(term.Parse("(add a:16 a:16)"))
	if l := results(m); !reflect.DeepEqual(l, want) {
		t.Errorf("%v, not %v", l, want)
	}
}

// TestR7 has machines as large as can be, and some that are larger.
func TestR7(t *testing.T) {
	var l []api.MachInstr
	for range api.MaxInstrs {
		var operands []api.MachOperand
		for k := range 3 {
			operands = append(operands, number(api.OperandSigned, 0, 6*k, 1, 6*k+1, 1, 6*k+2, 1, 6*k+3, 1))
		}
		l = append(l, instr(0, 0, append(operands, register(bank3, 24, 1, 25, 1))...))
	}
	m := made(4, l...)
	if holes := must(ambiguous.Holes(m, 3<<24, api.MaxHoles)); len(holes) != api.MaxHoles {
		t.Error(len(holes))
	}
	if clashes := must(ambiguous.Clashes(m)); len(clashes) != 2016 {
		t.Error(len(clashes))
	}
	m.Instrs = make([]api.MachInstr, 1<<20)
	refusesAll(t, m, api.ErrMany)
	endless := api.Term{Kind: api.TermAdd, Width: 16, Sub: make([]api.Term, 2)}
	endless.Sub[0], endless.Sub[1] = endless, endless
	m = example()
	m.Instrs[0].Effects = []api.MachEffect{{Kind: api.EffectTrap, Value: endless}}
	refusesAll(t, m, api.ErrBad)
}
