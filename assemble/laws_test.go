package assemble_test

import (
	"math"
	"reflect"
	"slices"
	"strings"
	"testing"

	"retarget/api"
	"retarget/assemble"
	"retarget/machine"
)

// TestP13_4Back has programs by chance: Read of Print is the program.
func TestP13_4Back(t *testing.T) {
	r := newMaker(4)
	for i := range 3000 {
		m := r.machine(1 + i%4)
		if i%5 == 0 {
			m = api.Given(i / 5 % 3)
		}
		p := r.program(m, 40)
		reads(t, m, must(assemble.Print(m, p)), p)
	}
}

// TestP13_4All has each word of small machines, in the middle of a program with labels all around.
func TestP13_4All(t *testing.T) {
	r := newMaker(5)
	for i := range 30 {
		m := small()
		if i > 0 {
			m = r.machine(1)
		}
		var p api.AsmProgram
		for word := range 256 {
			p.Words = append(p.Words, uint64(word))
		}
		p.Labels = manyLabels(257, 0)
		for at := range p.Labels {
			p.Labels[at].At = at
		}
		reads(t, m, must(assemble.Print(m, p)), p)
		p.Labels = nil
		reads(t, m, must(assemble.Print(m, p)), p)
	}
}

// TestP13_4Valid has texts by chance: what Read returns is valid, and has a text that is read as the same program.
func TestP13_4Valid(t *testing.T) {
	r := newMaker(6)
	met := 0
	for i := range 3000 {
		m := r.machine(1 + i%4)
		var text strings.Builder
		for range r.IntN(12) {
			if r.IntN(2) == 0 {
				text.WriteString(pick(r, r.names()) + ":\n")
			} else {
				text.WriteString(referenceText(m, api.AsmProgram{Words: r.program(m, 1).Words}))
			}
		}
		p, _, e := assemble.Read(m, text.String())
		if e != api.OK {
			continue
		}
		if !referenceValid(m, p) {
			t.Errorf("%q: %v", text.String(), p)
		}
		checks(t, m, p, api.OK)
		reads(t, m, must(assemble.Print(m, p)), p)
		met += len(p.Labels)
	}
	if met < 1000 {
		t.Error(met)
	}
}

// joined returns the program of two texts, one after the other.
func joined(a, b api.AsmProgram) api.AsmProgram {
	both := api.AsmProgram{Words: slices.Concat(a.Words, b.Words), Labels: slices.Clone(a.Labels)}
	for _, l := range b.Labels {
		both.Labels = append(both.Labels, api.AsmLabel{Name: l.Name, At: l.At + len(a.Words)})
	}
	sortLabels(both.Labels)
	return both
}

// TestP13_4Two has two texts, one after the other; with a label in common there is an error in the line of the second one.
func TestP13_4Two(t *testing.T) {
	r := newMaker(7)
	apart, common := 0, 0
	for i := range 3000 {
		m := r.machine(1 + i%4)
		a, b := r.program(m, 12), r.program(m, 12)
		if i%8 > 0 {
			b.Labels = slices.DeleteFunc(b.Labels, func(l api.AsmLabel) bool {
				return slices.ContainsFunc(a.Labels, func(k api.AsmLabel) bool { return k.Name == l.Name })
			})
		}
		first, second := must(assemble.Print(m, a)), must(assemble.Print(m, b))
		twice := slices.IndexFunc(strings.Split(second, "\n"), func(line string) bool {
			return slices.ContainsFunc(a.Labels, func(l api.AsmLabel) bool { return l.Name+":" == line })
		})
		if twice < 0 {
			reads(t, m, first+second, joined(a, b))
			reads(t, m, first+"\n\n"+second, joined(a, b))
			apart++
			continue
		}
		if _, line, e := assemble.Read(m, first+second); e == api.OK || line > 1+strings.Count(first, "\n")+twice {
			t.Errorf("%q %q: line %d, %v", first, second, line, e)
		}
		common++
	}
	if apart < 1000 || common < 100 {
		t.Error(apart, common)
	}
	m := small()
	reads(t, m, "a:\njump a\n"+"b:\njump b\n", program([]uint64{0x17, 0x17}, "a=0", "b=1"))
	reads(t, m, "a:\njump b\n"+"b:\njump a\n", program([]uint64{0x10, 0x16}, "a=0", "b=1"))
}

// refusesAll fails unless all functions return the error for a machine, whatever the other arguments are.
func refusesAll(t *testing.T, m api.Machine, want api.Errno) {
	t.Helper()
	for _, p := range []api.AsmProgram{
		program(nil), program([]uint64{0}, "a=1"), program([]uint64{math.MaxUint64}), program(nil, "a=1"), program(nil, "=-1"),
		{Words: make([]uint64, 1<<16), Labels: manyLabels(1<<12, 0)},
	} {
		checks(t, m, p, want)
		printsNot(t, m, p, want)
	}
	for _, s := range []string{"", "nop", "?", "\n\nother", "a:\na:", "@ 0", "@ -1", strings.Repeat("\n", api.MaxTokens+1), strings.Repeat("?", api.MaxText+1)} {
		readsNot(t, m, s, 0, want)
	}
}

// TestP13Check has machines that are not valid: their error comes before all others, in no line.
func TestP13Check(t *testing.T) {
	refusesAll(t, api.Machine{}, api.ErrBad)
	for _, c := range []struct {
		change func(*api.Machine)
		want   api.Errno
	}{
		{func(m *api.Machine) { m.Word = 0 }, api.ErrBad},
		{func(m *api.Machine) { m.Word = 5 }, api.ErrBad},
		{func(m *api.Machine) { m.Word = math.MinInt }, api.ErrBad},
		{func(m *api.Machine) { m.Name = "" }, api.ErrBad},
		{func(m *api.Machine) { m.Regs[1].Name = "" }, api.ErrBad},
		{func(m *api.Machine) { m.Instrs[1].Name = m.Instrs[0].Name }, api.ErrBad},
		{func(m *api.Machine) { m.Instrs[1].Match = 1 << 40 }, api.ErrBad},
		{func(m *api.Machine) { m.Instrs[1].Operands[0].Kind = 9 }, api.ErrBad},
		{func(m *api.Machine) { m.Instrs[1].Operands[0].Bank = 99 }, api.ErrBad},
		{func(m *api.Machine) { m.Instrs[1].Operands[0].Tied = 99 }, api.ErrBad},
		{func(m *api.Machine) { m.Instrs[1].Operands[0].Pieces[0].Len = math.MaxInt }, api.ErrBad},
		{func(m *api.Machine) { m.Banks[0].Regs[0] = 1 << 40 }, api.ErrBad},
		{func(m *api.Machine) { m.Instrs[0].Effects[0].Value.Width = 7 }, api.ErrBad},
		{func(m *api.Machine) { m.Instrs[0].Slots = 1 }, api.ErrBad},
		{func(m *api.Machine) { m.Instrs[0].Operands = make([]api.MachOperand, 5) }, api.ErrMany},
		{func(m *api.Machine) { m.Instrs = append(m.Instrs, make([]api.MachInstr, 64)...) }, api.ErrMany},
		{func(m *api.Machine) { m.Regs = make([]api.MachReg, 65) }, api.ErrMany},
	} {
		m := api.Given(0)
		c.change(&m)
		refusesAll(t, m, c.want)
	}
}

// visit calls a function with each list in a value, inner ones last.
func visit(v reflect.Value, list func(reflect.Value)) {
	switch v.Kind() {
	case reflect.Struct:
		for i := range v.NumField() {
			visit(v.Field(i), list)
		}
	case reflect.Slice:
		list(v)
		for i := range v.Len() {
			visit(v.Index(i), list)
		}
	}
}

// filled returns a value in which each list has room for more, and something stands there.
func filled[T any](x T) T {
	visit(reflect.ValueOf(&x).Elem(), func(l reflect.Value) {
		if n := l.Len(); n > 0 {
			more := reflect.AppendSlice(reflect.MakeSlice(l.Type(), 0, n+2), l)
			l.Set(reflect.Append(more, l.Index(n-1), l.Index(0)).Slice(0, n))
		}
	})
	return x
}

// wholeOf copies the numbers and strings in all that the lists of a value have room for.
func wholeOf(x any) []any {
	var all []any
	var note func(v reflect.Value)
	note = func(v reflect.Value) {
		switch v.Kind() {
		case reflect.Struct:
			for i := range v.NumField() {
				note(v.Field(i))
			}
		case reflect.Slice:
			all = append(all, v.Len(), v.Cap())
			for whole, i := v.Slice(0, v.Cap()), 0; i < v.Cap(); i++ {
				note(whole.Index(i))
			}
		default:
			all = append(all, v.Interface())
		}
	}
	note(reflect.ValueOf(x))
	return all
}

// spoil sets all that the lists of a value have room for to zero, inner ones first.
func spoil(x any) {
	var lists []reflect.Value
	visit(reflect.ValueOf(x), func(l reflect.Value) { lists = append(lists, l.Slice(0, l.Cap())) })
	for _, l := range slices.Backward(lists) {
		for i := range l.Len() {
			l.Index(i).SetZero()
		}
	}
}

// results are what all functions return for a machine, a program and some texts.
func results(m api.Machine, p api.AsmProgram) []any {
	s, e := assemble.Print(m, p)
	all := []any{assemble.Check(m, p), s, e}
	for _, text := range []string{s, "z:\n" + s + "zz:\n", "other", "@ 1\n?", s + s, ""} {
		q, line, e := assemble.Read(m, text)
		all = append(all, q, line, e)
	}
	return all
}

// TestR2 spoils what is returned, and makes the same calls again, with others in between; arguments are only read.
func TestR2(t *testing.T) {
	r := newMaker(8)
	for _, m := range []api.Machine{api.Given(0), api.Given(1), api.Given(2), small(), r.machine(3)} {
		m, p := filled(m), filled(r.program(m, 20))
		kept, keptProgram := wholeOf(m), wholeOf(p)
		want := results(m, p)
		for _, x := range results(m, p) {
			spoil(x)
		}
		results(api.Given(1), program([]uint64{1, 2}, "a=1"))
		if again := results(m, p); !reflect.DeepEqual(again, want) {
			t.Errorf("%s: %v, not %v", m.Name, again, want)
		}
		if !reflect.DeepEqual(wholeOf(m), kept) || !reflect.DeepEqual(wholeOf(p), keptProgram) {
			t.Errorf("%s: an argument was changed", m.Name)
		}
	}
}

// TestR2Order has labels that are out of order in the room behind a list, and in the list: neither is put in order.
func TestR2Order(t *testing.T) {
	whole := labels("b=2", "c=1", "a=0")
	p := api.AsmProgram{Words: []uint64{1, 2}, Labels: whole[:1]}
	checks(t, small(), p, api.OK)
	prints(t, small(), p, "@ 0x1\n@ 0x2\nb:\n")
	p.Labels = whole
	checks(t, small(), p, api.ErrBad)
	printsNot(t, small(), p, api.ErrBad)
	if !slices.Equal(whole, labels("b=2", "c=1", "a=0")) {
		t.Error(whole)
	}
}

// TestR3 has lists without anything in both forms.
func TestR3(t *testing.T) {
	same := func(got, want []any) {
		t.Helper()
		for i := range want {
			a, is := got[i].(api.AsmProgram)
			if b, _ := want[i].(api.AsmProgram); is && !sameProgram(a, b) || !is && got[i] != want[i] {
				t.Errorf("%d: %v, not %v", i, got[i], want[i])
			}
		}
	}
	m := small()
	p := program([]uint64{0, 0x65, 1}, "a=1")
	want := results(m, p)
	m.Instrs[0].Operands, m.Instrs[0].Effects, m.Instrs[7].Operands[1].Pieces = []api.MachOperand{}, []api.MachEffect{}, []api.MachPiece{}
	same(results(m, p), want)
	bare := made(1)
	bare.Banks, bare.Instrs = []api.MachBank{}, []api.MachInstr{}
	none := made(1)
	none.Banks = nil
	same(results(bare, p), results(none, p))
	empty := api.AsmProgram{Words: []uint64{}, Labels: []api.AsmLabel{}}
	same(results(m, empty), results(m, api.AsmProgram{}))
	prints(t, m, empty, "")
}

// large returns a machine as large as can be, with fields of four pieces and effects with great terms.
func large() api.Machine {
	value := api.Term{Kind: api.TermConst, Width: 32}
	for range 7 {
		value = api.Term{Kind: api.TermAdd, Width: 32, Sub: []api.Term{value, value}}
	}
	m := made(4)
	for k := range api.MaxInstrs {
		var operands []api.MachOperand
		for i := range 3 {
			operands = append(operands, number(uint8(2+i), 0, 8+6*i, 1, 9+6*i, 2, 11+6*i, 2, 13+6*i, 1))
		}
		x := instr("i"+string(rune('A'+k/8))+string(rune('a'+k%8)), 0xff, uint64(k), append(operands, register(bank3, 26, 1, 27, 1))...)
		for range api.MaxEffects {
			x.Effects = append(x.Effects, api.MachEffect{Kind: api.EffectStore, Addr: value, Value: value})
		}
		m.Instrs = append(m.Instrs, x)
	}
	return m
}

// TestR7 has machines and programs as large as can be, and some that are larger.
func TestR7(t *testing.T) {
	m := large()
	if e := machine.Check(m); e != api.OK {
		t.Fatal(e)
	}
	r := newMaker(9)
	var p api.AsmProgram
	for i := range 2000 {
		p.Words = append(p.Words, uint64(i%api.MaxInstrs)|r.Uint64N(1<<20)<<8)
	}
	p.Labels = manyLabels(600, 0)
	for i := range p.Labels {
		p.Labels[i].At = 2 * i
	}
	text := must(assemble.Print(m, p))
	bare := large()
	for i := range bare.Instrs {
		// The reference would check the terms for each word.
		bare.Instrs[i].Effects = nil
	}
	if text != referenceText(bare, p) {
		t.Error("another text")
	}
	reads(t, m, text, p)
	p.Words = slices.Repeat([]uint64{math.MaxUint32}, api.MaxWords)
	reads(t, m, must(assemble.Print(m, p)), p)
	m.Instrs = make([]api.MachInstr, 1<<20)
	refusesAll(t, m, api.ErrMany)
	endless := api.Term{Kind: api.TermAdd, Width: 16, Sub: make([]api.Term, 2)}
	endless.Sub[0], endless.Sub[1] = endless, endless
	m = small()
	m.Instrs[0].Effects = []api.MachEffect{{Kind: api.EffectTrap, Value: endless}}
	refusesAll(t, m, api.ErrBad)
}
