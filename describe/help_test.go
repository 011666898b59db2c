package describe_test

import (
	"math/rand/v2"
	"reflect"
	"slices"
	"strconv"
	"strings"
	"testing"

	"retarget/api"
	"retarget/describe"
	"retarget/lexer"
	"retarget/machine"
	"retarget/term"
)

// must returns a value that comes without an error.
func must[T any](x T, e api.Errno) T {
	if e != api.OK {
		panic(e)
	}
	return x
}

func parse(s string) api.Term { return must(term.Parse(s)) }

// sampleText is the text of the machine sample.
const sampleText = `machine sample word 3 address 16
reg low 16 in a at 0
reg a 32
reg f 1
reg high 16 in a at 16
reg mid 16 in a at 12
reg p 16
reg w 64
reg top 1 in w at 63
bank half : high p low
bank bit : top f
unit u 4
unit v 1
instr mix mask 0xe00000 match 0x0 unit v busy 15 latency 14 slots 2
operand d reg half at 19 len 2
operand c tied d
operand n signed scale 1 at 8 len 4 at 2 len 1
operand u unsigned scale 3 at 12 len 5
set c "(add c:16 n:16)"
fix w "(concat (concat u:16 pc:16) r.a:32)"
store "(add r.p:16 u:16)" "(extract 0 32 r.w:64)"
goto "(add pc:16 (sub n:16 d:16))" if "r.f:1"
instr go mask 0xe00000 match 0xa00000 unit u busy 1 latency 1 slots 1
operand to jump scale 0 at 1 len 12
goto "to:16"
fix low "16:beef"
instr stop mask 0xe00001 match 0x200001 unit u busy 2 latency 3 slots 0
operand s reg half at 1 len 1 at 18 len 1
trap "(concat s:16 1:1)"
instr none mask 0x0 match 0x0 unit u busy 1 latency 1 slots 0
instr load mask 0xffff00 match 0x80ab00 unit v busy 1 latency 1 slots 0
operand b reg bit at 7 len 1
operand h reg half at 0 len 1 at 2 len 1 at 4 len 1 at 6 len 1
set h "(load 16 (add h:16 16:0002))"
set b "(eq (load 8 r.p:16) 8:00)"
`

// sample is the machine that sampleText describes, made without package describe: it has registers that come before their roots, and all kinds of operands and effects.
func sample() api.Machine {
	pieces := func(places ...int) []api.MachPiece {
		var l []api.MachPiece
		for i := 0; i < len(places); i += 2 {
			l = append(l, api.MachPiece{At: places[i], Len: places[i+1]})
		}
		return l
	}
	m := api.Machine{
		Name: "sample", Word: 3, Address: 16,
		Regs:  []api.MachReg{{Name: "low", Width: 16, Of: 1}, {Name: "a", Width: 32, Of: -1}, {Name: "f", Width: 1, Of: -1}, {Name: "high", Width: 16, Of: 1, Low: 16}, {Name: "mid", Width: 16, Of: 1, Low: 12}, {Name: "p", Width: 16, Of: -1}, {Name: "w", Width: 64, Of: -1}, {Name: "top", Width: 1, Of: 6, Low: 63}},
		Banks: []api.MachBank{{Name: "half", Regs: []int{3, 5, 0}}, {Name: "bit", Regs: []int{7, 2}}},
		Units: []api.MachUnit{{Name: "u", Count: 4}, {Name: "v", Count: 1}},
	}
	m.Instrs = []api.MachInstr{
		{Name: "mix", Mask: 0xe00000, Unit: 1, Busy: 15, Latency: 14, Slots: 2,
			Operands: []api.MachOperand{
				{Name: "d", Kind: api.OperandReg, Pieces: pieces(19, 2), Tied: -1}, {Name: "c", Kind: api.OperandReg},
				{Name: "n", Kind: api.OperandSigned, Scale: 1, Pieces: pieces(8, 4, 2, 1), Tied: -1}, {Name: "u", Kind: api.OperandUnsigned, Scale: 3, Pieces: pieces(12, 5), Tied: -1},
			},
			Effects: []api.MachEffect{
				{Kind: api.EffectReg, Operand: 1, Value: parse("(add c:16 n:16)")}, {Kind: api.EffectReg, Operand: -1, Reg: 6, Value: parse("(concat (concat u:16 pc:16) r.a:32)")},
				{Kind: api.EffectStore, Addr: parse("(add r.p:16 u:16)"), Value: parse("(extract 0 32 r.w:64)")}, {Kind: api.EffectJump, Value: parse("(add pc:16 (sub n:16 d:16))"), Cond: parse("r.f:1")},
			}},
		{Name: "go", Mask: 0xe00000, Match: 0xa00000, Busy: 1, Latency: 1, Slots: 1,
			Operands: []api.MachOperand{{Name: "to", Kind: api.OperandJump, Pieces: pieces(1, 12), Tied: -1}},
			Effects:  []api.MachEffect{{Kind: api.EffectJump, Value: parse("to:16")}, {Kind: api.EffectReg, Operand: -1, Value: parse("16:beef")}}},
		{Name: "stop", Mask: 0xe00001, Match: 0x200001, Busy: 2, Latency: 3,
			Operands: []api.MachOperand{{Name: "s", Kind: api.OperandReg, Pieces: pieces(1, 1, 18, 1), Tied: -1}},
			Effects:  []api.MachEffect{{Kind: api.EffectTrap, Value: parse("(concat s:16 1:1)")}}},
		{Name: "none", Busy: 1, Latency: 1},
		{Name: "load", Mask: 0xffff00, Match: 0x80ab00, Unit: 1, Busy: 1, Latency: 1,
			Operands: []api.MachOperand{{Name: "b", Kind: api.OperandReg, Bank: 1, Pieces: pieces(7, 1), Tied: -1}, {Name: "h", Kind: api.OperandReg, Pieces: pieces(0, 1, 2, 1, 4, 1, 6, 1), Tied: -1}},
			Effects:  []api.MachEffect{{Kind: api.EffectReg, Operand: 1, Value: parse("(load 16 (add h:16 16:0002))")}, {Kind: api.EffectReg, Value: parse("(eq (load 8 r.p:16) 8:00)")}}},
	}
	return m
}

// tinyText is the text of the machine tiny.
const tinyText = "machine t word 1 address 16\nreg a 8\nunit u 1\n"

// tiny is a valid machine with as little as possible.
func tiny() api.Machine {
	return api.Machine{Name: "t", Word: 1, Address: 16, Regs: []api.MachReg{{Name: "a", Width: 8, Of: -1}}, Units: []api.MachUnit{{Name: "u", Count: 1}}}
}

// machines returns valid machines.
func machines() []api.Machine {
	return []api.Machine{sample(), tiny(), api.Given(0), api.Given(1), api.Given(2)}
}

// reads fails unless Read returns the machine.
func reads(t *testing.T, s string, want api.Machine) {
	t.Helper()
	m, line, e := describe.Read(s)
	if e != api.OK || line != 0 || !machine.Same(m, want) {
		t.Errorf("%.200q: %v, line %d, %v, not %v", s, e, line, m, want)
	}
}

// wrong fails unless Read returns the error, in this line.
func wrong(t *testing.T, s string, place int, want api.Errno) {
	t.Helper()
	m, line, e := describe.Read(s)
	if e != want || line != place || !reflect.DeepEqual(m, api.Machine{}) {
		t.Errorf("%.200q: %v in line %d, not %v in line %d; %v", s, e, line, want, place, m)
	}
}

// agrees fails unless Read returns what the reference does, and returns the error.
func agrees(t *testing.T, s string) (line int, e api.Errno) {
	t.Helper()
	m, line, e := referenceRead(s)
	if e == api.OK {
		reads(t, s, m)
	} else {
		wrong(t, s, line, e)
	}
	return line, e
}

// prints fails unless Print returns the text.
func prints(t *testing.T, m api.Machine, want string) {
	t.Helper()
	if s, e := describe.Print(m); e != api.OK || s != want {
		t.Errorf("%s: %v\n%.2000s\nnot\n%.2000s", m.Name, e, s, want)
	}
}

// refuses fails unless Print returns the error.
func refuses(t *testing.T, m api.Machine, want api.Errno) {
	t.Helper()
	if s, e := describe.Print(m); e != want || s != "" {
		t.Errorf("%s: %v, not %v, with %.200q", m.Name, e, want, s)
	}
}

// A spot is a number, a string or a list in a value, with the way to it.
type spot struct {
	way string
	reflect.Value
}

// spots returns all numbers, strings and lists in a value.
func spots[T any](x *T) []spot {
	var all []spot
	var visit func(way string, v reflect.Value)
	visit = func(way string, v reflect.Value) {
		if v.Kind() == reflect.Struct {
			for i := range v.NumField() {
				visit(way+"."+v.Type().Field(i).Name, v.Field(i))
			}
			return
		}
		all = append(all, spot{way, v})
		if v.Kind() == reflect.Slice {
			for i := range v.Len() {
				visit(way+"."+strconv.Itoa(i), v.Index(i))
			}
		}
	}
	visit("", reflect.ValueOf(x).Elem())
	return all
}

// A maker makes values by chance, always the same ones.
type maker struct{ *rand.Rand }

func newMaker(seed uint64) maker { return maker{rand.New(rand.NewPCG(seed, 10))} }

func pick[T any](m maker, l []T) T { return l[m.IntN(len(l))] }

// names returns different names, some of them words of the forms.
func (m maker) names(many int) []string {
	words := []string{"machine", "reg", "bank", "unit", "instr", "operand", "set", "fix", "store", "goto", "trap", "word", "address", "in", "at", "mask", "match", "busy", "latency", "slots", "tied", "signed", "unsigned", "jump", "scale", "len", "if", "REG", "NAME", "r", "x1f", "Z_9", strings.Repeat("long_", 4) + "name"}
	var l []string
	for len(l) < many {
		name := pick(m, words)
		if m.IntN(2) == 0 {
			name = string(rune('a'+m.IntN(26))) + strconv.Itoa(m.IntN(100))
		}
		if !slices.Contains(l, name) {
			l = append(l, name)
		}
	}
	return l
}

// machine returns a valid machine with parts, banks, units and instructions by chance.
func (m maker) machine() api.Machine {
	d := api.Machine{Name: m.names(1)[0], Word: 1 + m.IntN(4), Address: 16 + 16*m.IntN(2)}
	d.Regs = m.regs()
	widths := map[int][]int{}
	for i, r := range d.Regs {
		widths[r.Width] = append(widths[r.Width], i)
	}
	for _, name := range m.names(m.IntN(4)) {
		l := slices.Clone(widths[pick(m, d.Regs).Width])
		m.Shuffle(len(l), func(i, j int) { l[i], l[j] = l[j], l[i] })
		d.Banks = append(d.Banks, api.MachBank{Name: name, Regs: l[:1+m.IntN(len(l))]})
	}
	for _, name := range m.names(1 + m.IntN(3)) {
		d.Units = append(d.Units, api.MachUnit{Name: name, Count: 1 + m.IntN(4)})
	}
	for _, name := range m.names(m.IntN(6)) {
		d.Instrs = append(d.Instrs, m.instr(d, name))
	}
	return d
}

// regs returns roots and parts, in any order.
func (m maker) regs() []api.MachReg {
	widths := []int{1, 2, 8, 8, 16, 16, 32, 32, 64, 1 + m.IntN(64)}
	var l []api.MachReg
	for range 1 + m.IntN(4) {
		l = append(l, api.MachReg{Width: pick(m, widths), Of: -1})
	}
	for root := range l {
		for range m.IntN(3) {
			if wide := l[root].Width; wide > 1 {
				width := min(pick(m, widths), wide-1)
				l = append(l, api.MachReg{Width: width, Of: root, Low: m.IntN(wide - width + 1)})
			}
		}
	}
	names, places := m.names(len(l)), m.Perm(len(l))
	out := make([]api.MachReg, len(l))
	for i, r := range l {
		r.Name = names[i]
		if r.Of >= 0 {
			r.Of = places[r.Of]
		}
		out[places[i]] = r
	}
	return out
}

// instr returns an instruction that is valid in d.
func (m maker) instr(d api.Machine, name string) api.MachInstr {
	i := api.MachInstr{Name: name, Unit: m.IntN(len(d.Units)), Busy: 1 + m.IntN(15), Latency: 1 + m.IntN(15)}
	free := m.Perm(8 * d.Word)
	for _, name := range m.names(m.IntN(5)) {
		var o api.MachOperand
		if o, free = m.operand(d, i.Operands, free); name != "pc" && o.Kind != 0 {
			o.Name = name
			i.Operands = append(i.Operands, o)
		}
	}
	for _, bit := range free[:m.IntN(len(free)+1)] {
		i.Mask |= 1 << bit
		i.Match |= m.Uint64() & (1 << bit)
	}
	vars := variablesOf(d, i)
	for range m.IntN(5) {
		f, jumps := m.effect(d, i, vars), slices.ContainsFunc(i.Effects, func(f api.MachEffect) bool { return f.Kind == api.EffectJump })
		if f.Kind == 0 || f.Kind == api.EffectJump && jumps || f.Kind == api.EffectTrap && len(i.Effects) > 0 {
			continue
		}
		i.Effects = append(i.Effects, f)
		if f.Kind == api.EffectJump {
			i.Slots = m.IntN(3)
		}
		if f.Kind == api.EffectTrap {
			break
		}
	}
	return i
}

// operand returns an operand behind the others, or none, and the bits that are still free.
func (m maker) operand(d api.Machine, others []api.MachOperand, free []int) (api.MachOperand, []int) {
	if len(others) > 0 && m.IntN(3) == 0 {
		to := m.IntN(len(others))
		if others[to].Kind == api.OperandReg && others[to].Tied == -1 {
			return api.MachOperand{Kind: api.OperandReg, Bank: others[to].Bank, Tied: to}, free
		}
	}
	o := api.MachOperand{Kind: uint8(1 + m.IntN(4)), Tied: -1}
	many := min(1+m.IntN(4), len(free))
	for _, bit := range free[:many] {
		o.Pieces = append(o.Pieces, api.MachPiece{At: bit, Len: 1})
	}
	if many == 1 && slices.Contains(free[1:], o.Pieces[0].At+1) {
		o.Pieces[0].Len = 2
		free = slices.DeleteFunc(slices.Clone(free), func(bit int) bool { return bit == o.Pieces[0].At+1 })
	}
	if o.Kind != api.OperandReg {
		o.Scale = m.IntN(4)
	} else if len(d.Banks) > 0 {
		o.Bank = m.IntN(len(d.Banks))
	}
	if many == 0 || o.Kind == api.OperandReg && (len(d.Banks) == 0 || len(d.Banks[o.Bank].Regs) > 1<<many) {
		return api.MachOperand{}, free
	}
	return o, free[many:]
}

// variablesOf returns the variables of an instruction.
func variablesOf(d api.Machine, i api.MachInstr) []api.Term {
	l := []api.Term{{Kind: api.TermVar, Width: d.Address, Name: "pc"}}
	for _, r := range d.Regs {
		l = append(l, api.Term{Kind: api.TermVar, Width: r.Width, Name: "r." + r.Name})
	}
	for _, o := range i.Operands {
		width := d.Address
		if o.Kind == api.OperandReg {
			width = d.Regs[d.Banks[o.Bank].Regs[0]].Width
		}
		l = append(l, api.Term{Kind: api.TermVar, Width: width, Name: o.Name})
	}
	return l
}

// effect returns an effect of any kind, or none.
func (m maker) effect(d api.Machine, i api.MachInstr, vars []api.Term) api.MachEffect {
	f := api.MachEffect{Kind: uint8(1 + m.IntN(4))}
	wide := func(width int) api.Term { return m.term(d.Address, width, vars, 3) }
	switch f.Kind {
	case api.EffectReg:
		f.Operand = m.IntN(len(i.Operands)+1) - 1
		if f.Operand == -1 {
			f.Reg = m.IntN(len(d.Regs))
			f.Value = wide(d.Regs[f.Reg].Width)
			break
		}
		o := i.Operands[f.Operand]
		if o.Kind != api.OperandReg {
			return api.MachEffect{}
		}
		f.Value = wide(d.Regs[d.Banks[o.Bank].Regs[0]].Width)
	case api.EffectStore:
		f.Addr, f.Value = wide(d.Address), wide(8<<m.IntN(4))
	case api.EffectJump:
		f.Value = wide(d.Address)
		if m.IntN(2) == 0 {
			f.Cond = wide(1)
		}
	case api.EffectTrap:
		f.Value = wide(1 + m.IntN(64))
	}
	return f
}

// term returns a term of a width over variables, at most so deep.
func (m maker) term(address, width int, vars []api.Term, depth int) api.Term {
	if depth == 0 || m.IntN(3) == 0 {
		right := slices.DeleteFunc(slices.Clone(vars), func(v api.Term) bool { return v.Width != width })
		if len(right) == 0 || m.IntN(3) == 0 {
			return api.Term{Kind: api.TermConst, Width: width, Bits: m.Uint64() >> (64 - width)}
		}
		return pick(m, right)
	}
	part := func(width int) api.Term { return m.term(address, width, vars, depth-1) }
	t := api.Term{Kind: uint8(3 + m.IntN(22)), Width: width}
	other := 1 + m.IntN(64)
	switch t.Kind {
	case api.TermNot, api.TermNeg:
		t.Sub = []api.Term{part(width)}
	case api.TermIte:
		t.Sub = []api.Term{part(1), part(width), part(width)}
	case api.TermExtract:
		t.Low = m.IntN(65 - width)
		t.Sub = []api.Term{part(width + t.Low)}
	case api.TermZext, api.TermSext:
		t.Sub = []api.Term{part(1 + m.IntN(width))}
	default:
		switch {
		case width == 1 && m.IntN(2) == 0:
			t.Kind, t.Sub = api.TermEq+uint8(m.IntN(3)), []api.Term{part(other), part(other)}
		case slices.Contains([]int{8, 16, 32, 64}, width) && m.IntN(3) == 0:
			t.Kind, t.Sub = api.TermLoad, []api.Term{part(address)}
		case width > 1 && m.IntN(4) == 0:
			low := 1 + m.IntN(width-1)
			t.Kind, t.Sub = api.TermConcat, []api.Term{part(width - low), part(low)}
		default:
			t.Kind, t.Sub = api.TermAdd+uint8(m.IntN(11)), []api.Term{part(width), part(width)}
		}
	}
	return t
}

// tokens returns the tokens of a text that has no error.
func tokens(s string) [][]string {
	l, _, e := lexer.Tokens(s)
	if e != api.OK {
		panic(s)
	}
	var all [][]string
	for _, line := range lexer.Lines(l) {
		var written []string
		for _, t := range line {
			s := t.Text
			if t.Kind == api.TokenText {
				s = `"` + s + `"`
			}
			written = append(written, s)
		}
		all = append(all, written)
	}
	return all
}

// laid writes lines of tokens with spaces, remarks and empty lines by chance.
func (m maker) laid(lines [][]string) string {
	var s strings.Builder
	for _, line := range lines {
		for m.IntN(8) == 0 {
			s.WriteString(strings.Repeat(" ", m.IntN(3)) + m.remark() + "\n")
		}
		for i, t := range line {
			gap := strings.Repeat(" ", m.IntN(3))
			if i > 0 && gap == "" && isWordy(line[i-1]) && isWordy(t) {
				gap = " "
			}
			s.WriteString(gap + t)
		}
		s.WriteString(strings.Repeat(" ", m.IntN(3)) + m.remark() + "\n")
	}
	return s.String()
}

func (m maker) remark() string {
	return pick(m, []string{"", "", "#", "# a remark", "#machine m word 1 address 16", `#"`, "##\x00\xff$"})
}

// isWordy reports whether a token ends where only another character than a letter or a digit comes, if there is one like it before or after it.
func isWordy(t string) bool { return t != ":" && !strings.HasPrefix(t, `"`) }
