package describe_test

import (
	"reflect"
	"slices"
	"strings"
	"testing"
	"unsafe"

	"retarget/api"
	"retarget/describe"
	"retarget/machine"
)

func TestP10_3ReadOfPrint(t *testing.T) {
	m := newMaker(3)
	all := append(machines(), wide(65536))
	for range 2000 {
		all = append(all, m.machine())
	}
	for _, d := range all {
		s, e := describe.Print(d)
		if e != api.OK {
			t.Fatal(e, d)
		}
		reads(t, s, d)
	}
}

// TestP10_3PrintOfRead has descriptions with changes: what they describe is valid, and read again from its text.
func TestP10_3PrintOfRead(t *testing.T) {
	m := newMaker(4)
	met := 0
	for range 4000 {
		lines := tokens(textOf(m.machine()))
		if m.IntN(2) == 0 {
			lines = m.changed(lines)
		}
		d, _, e := describe.Read(m.laid(lines))
		if e != api.OK {
			continue
		}
		if e := machine.Check(d); e != api.OK {
			t.Fatal(e, d)
		}
		reads(t, must(describe.Print(d)), d)
		met++
	}
	if met < 2000 {
		t.Error(met)
	}
}

// TestP10_3Layout writes descriptions with other spaces, and with remarks and empty lines.
func TestP10_3Layout(t *testing.T) {
	m := newMaker(5)
	for _, d := range append(machines(), m.machine(), m.machine(), m.machine()) {
		lines := tokens(textOf(d))
		for range 50 {
			reads(t, m.laid(lines), d)
		}
	}
	reads(t, "machine t word 1 address 16#\nreg   a  8 # in a at 0\n\n # bank\n   unit u 1", tiny())
	want := tiny()
	want.Banks = []api.MachBank{{Name: "b", Regs: []int{0}}}
	want.Instrs = []api.MachInstr{{Name: "i", Busy: 1, Latency: 1, Effects: []api.MachEffect{{Kind: api.EffectJump, Value: parse("pc:16"), Cond: parse("1:1")}}}}
	reads(t, "machine t word 1 address 16\nreg a 8\nbank b:a\nunit u 1\ninstr i mask 0 match 0 unit u busy 1 latency 1 slots 0\ngoto\"pc:16\"if\"1:1\"", want)
	// A remark ends with its line, and a line ends only with its end.
	wrong(t, "machine t word 1 # \naddress 16\nreg a 8\nunit u 1", 1, api.ErrForm)
	wrong(t, "machine t word 1 address 16 reg a 8\nunit u 1", 1, api.ErrForm)
	wrong(t, "machine t word 1 address 16\nreg a 8 # \n16\nunit u 1", 3, api.ErrForm)
}

// TestP10_3LayoutOfErrors moves errors to other lines by remarks and empty lines.
func TestP10_3LayoutOfErrors(t *testing.T) {
	m := newMaker(6)
	met := 0
	for range 1500 {
		lines := m.changed(tokens(textOf(m.machine())))
		var plain, spaced []string
		for _, line := range lines {
			plain = append(plain, strings.Join(line, " "))
			spaced = append(spaced, "  "+strings.Join(line, "   ")+" ")
		}
		_, place, e := describe.Read(strings.Join(plain, "\n"))
		if e == api.OK || place == 0 {
			continue
		}
		wrong(t, strings.Join(plain, " #\n  \n # x\n"), 3*place-2, e)
		wrong(t, "\n"+strings.Join(spaced, "\n")+"\n\n", place+1, e)
		met++
	}
	if met < 500 {
		t.Error(met)
	}
}

// filled returns a copy of m in which each list has room for more, and something stands there.
func filled(m api.Machine) api.Machine {
	for _, s := range slices.Backward(spots(&m)) {
		if s.Kind() == reflect.Slice && s.Len() > 0 {
			n := s.Len()
			more := reflect.AppendSlice(reflect.MakeSlice(s.Type(), 0, n+2), s.Value)
			more = reflect.Append(more, s.Index(n-1), s.Index(0))
			s.Set(more.Slice(0, n))
		}
	}
	return m
}

// wholeOf copies a value with all that its lists have room for.
func wholeOf[T any](x T) T {
	var y T
	copyTo(reflect.ValueOf(&y).Elem(), reflect.ValueOf(x))
	return y
}

func copyTo(to, from reflect.Value) {
	switch from.Kind() {
	case reflect.Struct:
		for i := range from.NumField() {
			copyTo(to.Field(i), from.Field(i))
		}
	case reflect.Slice:
		from = from.Slice(0, from.Cap())
		to.Set(reflect.MakeSlice(from.Type(), from.Len(), from.Len()))
		for i := range from.Len() {
			copyTo(to.Index(i), from.Index(i))
		}
	default:
		to.Set(from)
	}
}

// TestR2Arguments has lists with room for more, which are only read.
func TestR2Arguments(t *testing.T) {
	bad := sample()
	bad.Instrs[2].Effects[0].Value.Sub[0].Name = "x"
	for _, d := range []api.Machine{filled(sample()), filled(api.Given(2)), wide(65537), filled(bad)} {
		kept := wholeOf(d)
		s, e := describe.Print(d)
		if !reflect.DeepEqual(wholeOf(d), kept) {
			t.Errorf("%s was changed", d.Name)
		}
		if again, f := describe.Print(d); again != s || f != e {
			t.Errorf("%s: %v, and then %v", d.Name, e, f)
		}
	}
}

// apart fails if two lists of m share memory.
func apart(t *testing.T, m *api.Machine) {
	t.Helper()
	met := map[uintptr]string{}
	for _, s := range spots(m) {
		if s.Kind() != reflect.Slice {
			continue
		}
		for i := range s.Cap() {
			at := s.Slice(0, s.Cap()).Index(i).Addr().Pointer()
			if other, is := met[at]; is {
				t.Fatalf("%s: %s and %s share memory", m.Name, other, s.way)
			}
			met[at] = s.way
		}
	}
}

// TestR2Results spoils what is returned, and makes the same calls again, with others in between.
func TestR2Results(t *testing.T) {
	for range 3 {
		for _, want := range append(machines(), wide(40000)) {
			d, _, e := describe.Read(textOf(want))
			if e != api.OK || !machine.Same(d, want) {
				t.Fatal(e, d)
			}
			apart(t, &d)
			for _, s := range spots(&d) {
				switch s.Kind() {
				case reflect.Slice:
					for i := s.Len(); i < s.Cap(); i++ {
						s.Slice(0, s.Cap()).Index(i).SetZero()
					}
				default:
					s.SetZero()
				}
			}
			prints(t, want, textOf(want))
		}
		wrong(t, "x", 1, api.ErrForm)
		wrong(t, sampleText+"x", 1+strings.Count(sampleText, "\n"), api.ErrForm)
		wrong(t, "", 0, api.ErrForm)
		refuses(t, api.Machine{}, api.ErrBad)
	}
}

// within reports whether a part of s lies in the memory of whole.
func within(s, whole string) bool {
	if s == "" || whole == "" {
		return false
	}
	first, last := uintptr(unsafe.Pointer(unsafe.StringData(s))), uintptr(unsafe.Pointer(unsafe.StringData(whole)))
	return first < last+uintptr(len(whole)) && last < first+uintptr(len(s))
}

// TestR2Strings finds no name of a result in the memory of an argument.
func TestR2Strings(t *testing.T) {
	s := strings.Clone(sampleText)
	d := must3(describe.Read(s))
	for _, x := range spots(&d) {
		if x.Kind() == reflect.String && within(x.String(), s) {
			t.Errorf("%s shares memory with the text", x.way)
		}
	}
	out := must(describe.Print(d))
	for _, x := range spots(&d) {
		if x.Kind() == reflect.String && within(x.String(), out) {
			t.Errorf("%s shares memory with the text that is printed", x.way)
		}
	}
}

// TestR3NilAndEmpty has lists without anything in both forms.
func TestR3NilAndEmpty(t *testing.T) {
	d := sample()
	for _, s := range spots(&d) {
		if s.Kind() == reflect.Slice && s.Len() == 0 {
			s.Set(reflect.MakeSlice(s.Type(), 0, 1))
		}
	}
	d.Instrs[0].Effects[0].Cond.Sub, d.Instrs[1].Effects[0].Cond.Sub, d.Instrs[1].Effects[0].Addr.Sub = []api.Term{}, []api.Term{}, []api.Term{}
	prints(t, d, sampleText)
	small := tiny()
	small.Banks, small.Instrs = []api.MachBank{}, []api.MachInstr{}
	prints(t, small, tinyText)
	reads(t, tinyText, small)
}

// TestR7Texts has bytes and tokens of all sorts.
func TestR7Texts(t *testing.T) {
	m := newMaker(7)
	words := []string{"machine", "reg", "bank", "unit", "instr", "operand", "set", "fix", "store", "goto", "trap", "word", "address", "in", "at", "len", "scale", "tied", "if", "a", "b", "a", "1", "16", "-1", ":", "\"a:8\"", "\"(\"", "\n", "\n", "# x", " ", "$", "\""}
	for range 20000 {
		var s strings.Builder
		if m.IntN(2) == 0 {
			s.WriteString(pick(m, []string{tinyText, sampleText, "machine t word 1 address 16\n", "machine t word 1 address 16\nreg a 8\nbank b : a\nunit u 1\ninstr a mask 0 match 0 unit u busy 1 latency 1 slots 0\noperand a reg b at 0 len 1\n"}))
		}
		for range m.IntN(12) {
			s.WriteString(pick(m, words) + pick(m, []string{" ", " ", ""}))
		}
		for range m.IntN(3) * m.IntN(4) {
			s.WriteByte(byte(m.IntN(256)))
		}
		agrees(t, s.String())
	}
}

// TestR7Great has arguments far beyond the limits, and terms that contain themselves.
func TestR7Great(t *testing.T) {
	wrong(t, strings.Repeat("machine", 1<<22), 0, api.ErrMany)
	wrong(t, strings.Repeat("\n", 1<<24), 0, api.ErrMany)
	wrong(t, "machine t word 1 address 16\nreg a 8\nunit u 1\ninstr i mask 0 match 0 unit u busy 1 latency 1 slots 0\ntrap \""+strings.Repeat("(not ", 13000), 5, api.ErrForm)
	wrong(t, "machine t word 1 address 16\nreg a 8\nunit u 1\ninstr i mask 0 match 0 unit u busy 1 latency 1 slots 0\ntrap \""+strings.Repeat("(not ", 9000)+"8:00"+strings.Repeat(")", 9000)+"\"", 5, api.ErrForm)
	many := strings.Builder{}
	for i := range 3000 {
		many.WriteString("reg " + string(rune('a'+i%26)) + string(rune('a'+i/26%26)) + string(rune('a'+i/676)) + " 8\n")
	}
	wrong(t, "machine t word 1 address 16\n"+many.String()+"bank b :"+strings.Repeat(" jle", 7000)+"\nunit u 1", 0, api.ErrMany)
	wrong(t, "machine t word 1 address 16\n"+many.String()+"bank b :"+strings.Repeat(" jle", 7000)+" zzz\nunit u 1", 3002, api.ErrName)

	d := sample()
	d.Regs = make([]api.MachReg, 1<<20)
	refuses(t, d, api.ErrMany)
	d = sample()
	d.Instrs[0].Operands[0].Pieces = make([]api.MachPiece, 1<<20)
	refuses(t, d, api.ErrMany)
	d = sample()
	endless := api.Term{Kind: api.TermAdd, Width: 16, Sub: make([]api.Term, 2)}
	endless.Sub[0], endless.Sub[1] = endless, endless
	d.Instrs[0].Effects[3].Value = endless
	refuses(t, d, api.ErrBad)
	d = sample()
	d.Instrs[0].Effects[2].Addr = endless
	refuses(t, d, api.ErrBad)
	d.Instrs[0].Effects[2].Addr = api.Term{Kind: 255, Width: -1, Name: strings.Repeat("x", 1<<20)}
	refuses(t, d, api.ErrBad)
	prints(t, sample(), sampleText)
}
