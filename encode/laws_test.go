package encode_test

import (
	"bytes"
	"math"
	"reflect"
	"slices"
	"testing"

	"retarget/ambiguous"
	"retarget/api"
	"retarget/encode"
)

// TestP12_5Back has machines without clashes: Decode of Encode is the op, and Ops of Image are the ops.
func TestP12_5Back(t *testing.T) {
	r := newMaker(9)
	all := []api.Machine{api.Given(0), api.Given(1), api.Given(2)}
	for len(all) < 80 {
		if m := r.machine(1+len(all)%4, 4); len(m.Instrs) > 0 && len(must(ambiguous.Clashes(m))) == 0 {
			all = append(all, m)
		}
	}
	for _, m := range all {
		ops := r.ops(m, 30)
		for _, op := range ops {
			decodes(t, m, must(encode.Encode(m, op)), op)
		}
		if l, at, e := encode.Ops(m, must(encode.Image(m, ops))); !slices.EqualFunc(l, ops, sameOp) || at != 0 || e != api.OK {
			t.Fatalf("%v: %v %d %v, not %v", m.Instrs, l, at, e, ops)
		}
	}
}

// TestP12_5Word has words of all machines: what Decode accepts is the word of the op, and what Ops accepts the image of the ops.
func TestP12_5Word(t *testing.T) {
	r := newMaker(10)
	met := 0
	for i := range 600 {
		m := r.machine(1+i%4, 5)
		var words []uint64
		for range 12 {
			word := r.word(m)
			if op, e := encode.Decode(m, word); e == api.OK {
				encodes(t, m, op, word)
				words = append(words, word)
			}
		}
		b := must(encode.Bytes(m, words))
		ops, at, e := encode.Ops(m, b)
		if at != 0 || e != api.OK || !bytes.Equal(must(encode.Image(m, ops)), b) {
			t.Fatalf("%v %x: %v %d %v", m.Instrs, words, ops, at, e)
		}
		met += len(words)
	}
	if met < 1000 {
		t.Error(met)
	}
}

// TestP12_5Different has all ops of small machines: those of one instruction have different words, which are just the words that are legal for it.
func TestP12_5Different(t *testing.T) {
	r := newMaker(11)
	for range 100 {
		m := r.machine(1, 3)
		for i := range m.Instrs {
			owned := map[uint64]bool{}
			ops := opsOf(m, i)
			for _, op := range ops {
				word := must(encode.Encode(m, op))
				if owned[word] || !must(ambiguous.Legal(m, i, word)) {
					t.Fatalf("%v: %v has %x", m.Instrs[i], op, word)
				}
				owned[word] = true
			}
			if n := must(ambiguous.Count(m, i)); n != uint64(len(ops)) {
				t.Fatalf("%v: %d ops, %d words", m.Instrs[i], len(ops), n)
			}
		}
	}
}

// TestP12Check has machines that are not valid: their error comes before all others.
func TestP12Check(t *testing.T) {
	refusesAll(t, api.Machine{}, api.ErrBad)
	for _, c := range []struct {
		change func(*api.Machine)
		want   api.Errno
	}{
		{func(m *api.Machine) { m.Word = 0 }, api.ErrBad},
		{func(m *api.Machine) { m.Word = 5 }, api.ErrBad},
		{func(m *api.Machine) { m.Word = math.MinInt }, api.ErrBad},
		{func(m *api.Machine) { m.Name = "" }, api.ErrBad},
		{func(m *api.Machine) { m.Instrs[1].Match = 1 << 40 }, api.ErrBad},
		{func(m *api.Machine) { m.Instrs[1].Operands[0].Bank = 99 }, api.ErrBad},
		{func(m *api.Machine) { m.Instrs[1].Operands[0].Tied = 99 }, api.ErrBad},
		{func(m *api.Machine) { m.Instrs[1].Operands[0].Pieces[0].At = -1 }, api.ErrBad},
		{func(m *api.Machine) { m.Instrs[1].Operands[0].Pieces[0].Len = math.MaxInt }, api.ErrBad},
		{func(m *api.Machine) { m.Instrs[0].Effects[0].Value.Width = 7 }, api.ErrBad},
		{func(m *api.Machine) { m.Instrs[0].Operands = make([]api.MachOperand, 5) }, api.ErrMany},
		{func(m *api.Machine) { m.Instrs[0].Operands[0].Pieces = make([]api.MachPiece, 5) }, api.ErrMany},
		{func(m *api.Machine) { m.Instrs = append(m.Instrs, make([]api.MachInstr, 64)...) }, api.ErrMany},
		{func(m *api.Machine) { m.Regs = make([]api.MachReg, 65) }, api.ErrMany},
	} {
		m := api.Given(0)
		c.change(&m)
		refusesAll(t, m, c.want)
	}
}

// visit calls a function with each list in a value, inner ones last.
func visit(v reflect.Value, list func(reflect.Value)) {
	switch v.Kind() {
	case reflect.Struct:
		for i := range v.NumField() {
			visit(v.Field(i), list)
		}
	case reflect.Slice:
		list(v)
		for i := range v.Len() {
			visit(v.Index(i), list)
		}
	}
}

// filled returns a value in which each list has room for more, and something stands there.
func filled[T any](x T) T {
	visit(reflect.ValueOf(&x).Elem(), func(l reflect.Value) {
		if n := l.Len(); n > 0 {
			more := reflect.AppendSlice(reflect.MakeSlice(l.Type(), 0, n+2), l)
			l.Set(reflect.Append(more, l.Index(n-1), l.Index(0)).Slice(0, n))
		}
	})
	return x
}

// wholeOf copies all that the lists of a value have room for.
func wholeOf(x any) []any {
	var all []any
	visit(reflect.ValueOf(x), func(l reflect.Value) {
		whole := l.Slice(0, l.Cap())
		for i := range whole.Len() {
			if x := whole.Index(i); x.Kind() != reflect.Struct {
				all = append(all, x.Interface())
			} else {
				all = append(all, x.Field(0).Interface(), whole.Len())
				for k := range x.NumField() {
					if f := x.Field(k); f.Kind() != reflect.Slice && f.Kind() != reflect.Struct {
						all = append(all, f.Interface())
					}
				}
			}
		}
	})
	return all
}

// results are what all functions return for a machine and some other arguments.
func results(m api.Machine) []any {
	var ops []api.MachOp
	if len(m.Instrs) > 0 {
		ops = newMaker(12).ops(m, 12)
	}
	return resultsOf(m, ops, must(encode.Image(m, ops)))
}

// resultsOf are what all functions return for a machine, ops and their image.
func resultsOf(m api.Machine, ops []api.MachOp, image []byte) []any {
	var all []any
	note := func(x ...any) { all = append(all, x...) }
	for _, op := range slices.Concat(ops, []api.MachOp{{}, {Instr: -1}, {Args: args(1)}}) {
		word, e := encode.Encode(m, op)
		back, f := encode.Decode(m, word)
		note(word, e, back, f)
	}
	for _, b := range [][]byte{image, nil, {0, 0, 0, 0, 255}, make([]byte, 4*api.MaxWords+4)} {
		words, e := encode.Words(m, b)
		found, at, f := encode.Ops(m, b)
		again, g := encode.Bytes(m, words)
		note(words, e, found, at, f, again, g)
	}
	op, e := encode.Decode(m, math.MaxUint64)
	b, f := encode.Image(m, ops)
	wrong, g := encode.Bytes(m, []uint64{1, math.MaxUint64})
	note(op, e, b, f, wrong, g)
	return all
}

// spoil sets all that the lists of a value have room for to zero, inner ones first.
func spoil(x any) {
	var lists []reflect.Value
	visit(reflect.ValueOf(x), func(l reflect.Value) { lists = append(lists, l.Slice(0, l.Cap())) })
	for _, l := range slices.Backward(lists) {
		for i := range l.Len() {
			l.Index(i).SetZero()
		}
	}
}

// sameResults fails unless two lists of results are equal; nil and empty lists are.
func sameResults(t *testing.T, got, want []any) {
	t.Helper()
	for i := range want {
		a, b := reflect.ValueOf(got[i]), reflect.ValueOf(want[i])
		if empty := a.Kind() == reflect.Slice && a.Len() == 0 && b.Len() == 0; !empty && !reflect.DeepEqual(got[i], want[i]) {
			t.Errorf("%d: %v, not %v", i, got[i], want[i])
		}
	}
}

// TestR2 spoils what is returned, and makes the same calls again, with others in between; arguments are only read.
func TestR2(t *testing.T) {
	r := newMaker(13)
	for _, m := range []api.Machine{api.Given(0), api.Given(1), api.Given(2), made(3, r.instr(3), r.instr(3))} {
		m, ops := filled(m), filled(r.ops(m, 20))
		image := filled(must(encode.Image(m, ops)))
		words := filled(must(encode.Words(m, image)))
		all := []any{m, ops, image, words}
		var kept [][]any
		for _, x := range all {
			kept = append(kept, wholeOf(x))
		}
		want := resultsOf(m, ops, image)
		encode.Bytes(m, words)
		for _, x := range resultsOf(m, ops, image) {
			spoil(x)
		}
		results(api.Given(1))
		if again := resultsOf(m, ops, image); !reflect.DeepEqual(again, want) {
			t.Errorf("%s: %v, not %v", m.Name, again, want)
		}
		for i, x := range all {
			if !reflect.DeepEqual(wholeOf(x), kept[i]) {
				t.Errorf("%s: the argument %d was changed", m.Name, i)
			}
		}
	}
}

// TestR2Apart spoils the arguments after the calls, and one op after the other: the results, and the other ops, stay.
func TestR2Apart(t *testing.T) {
	m := api.Given(2)
	ops := newMaker(14).ops(m, 40)
	b := must(encode.Image(m, ops))
	words := must(encode.Words(m, b))
	image := must(encode.Bytes(m, words))
	found, _, e := encode.Ops(m, b)
	if e != api.OK {
		t.Fatal(e)
	}
	keptWords, keptImage := slices.Clone(words), slices.Clone(image)
	clear(b)
	if !slices.EqualFunc(found, ops, sameOp) || !slices.Equal(words, keptWords) {
		t.Error("the bytes are shared")
	}
	clear(words)
	if !bytes.Equal(image, keptImage) {
		t.Error("the words are shared")
	}
	for i := range found {
		whole := found[i].Args[:cap(found[i].Args)]
		for k := range whole {
			whole[k] = math.MinInt
		}
		if !slices.EqualFunc(found[i+1:], ops[i+1:], sameOp) {
			t.Errorf("the op %d shares memory", i)
		}
	}
}

// TestR2Machine spoils a machine after calls that returned its registers.
func TestR2Machine(t *testing.T) {
	m := made(1, instr(0xf0, 0x40, register(bank3, 0, 2), tied(bank3, 0)))
	op := must(encode.Decode(m, 0x42))
	ops, _, _ := encode.Ops(m, []byte{0x42, 0x41})
	spoil(m)
	if !sameOp(op, api.MachOp{Args: args(27, 27)}) || !slices.EqualFunc(ops, []api.MachOp{{Args: args(27, 27)}, {Args: args(22, 22)}}, sameOp) {
		t.Error(op, ops)
	}
}

// TestR3 has lists without anything in both forms.
func TestR3(t *testing.T) {
	m := made(1, instr(0xff, 1), instr(0xf0, 0x10, register(bank3, 0, 2), tied(bank3, 0)))
	want := results(m)
	m.Instrs[0].Operands, m.Instrs[0].Effects, m.Instrs[1].Operands[1].Pieces = []api.MachOperand{}, []api.MachEffect{}, []api.MachPiece{}
	sameResults(t, results(m), want)
	bare := made(1)
	bare.Banks, bare.Instrs = []api.MachBank{}, []api.MachInstr{}
	sameResults(t, results(bare), results(made(1)))
	for _, list := range [][]int{nil, {}} {
		encodes(t, m, api.MachOp{Args: list}, 1)
		imageIs(t, m, []api.MachOp{{Args: list}, {Args: list}}, []byte{1, 1})
	}
}

// large returns a machine as large as can be, with fields of four pieces and effects with great terms.
func large() api.Machine {
	value := api.Term{Kind: api.TermConst, Width: 32}
	for range 7 {
		value = api.Term{Kind: api.TermAdd, Width: 32, Sub: []api.Term{value, value}}
	}
	var l []api.MachInstr
	for k := range api.MaxInstrs {
		var operands []api.MachOperand
		for i := range 3 {
			operands = append(operands, number(api.OperandSigned, 0, 8+6*i, 1, 9+6*i, 2, 11+6*i, 2, 13+6*i, 1))
		}
		x := instr(0xff, uint64(k), append(operands, register(bank3, 26, 1, 27, 1))...)
		for range api.MaxEffects {
			x.Effects = append(x.Effects, api.MachEffect{Kind: api.EffectStore, Addr: value, Value: value})
		}
		l = append(l, x)
	}
	return made(4, l...)
}

// TestR7 has images and machines as large as can be, and some that are larger.
func TestR7(t *testing.T) {
	m := large()
	ops := newMaker(15).ops(m, api.MaxWords)
	var words []uint64
	for _, op := range ops {
		words = append(words, wordOf(m, op))
	}
	imageIs(t, m, ops, bytesOf(m, words))
	m.Instrs = make([]api.MachInstr, 1<<20)
	refusesAll(t, m, api.ErrMany)
	endless := api.Term{Kind: api.TermAdd, Width: 16, Sub: make([]api.Term, 2)}
	endless.Sub[0], endless.Sub[1] = endless, endless
	m = made(1, instr(0, 0))
	m.Instrs[0].Effects = []api.MachEffect{{Kind: api.EffectTrap, Value: endless}}
	refusesAll(t, m, api.ErrBad)
}
