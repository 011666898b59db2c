package assemble_test

import (
	"fmt"
	"math/rand/v2"
	"reflect"
	"slices"
	"strconv"
	"strings"
	"testing"

	"retarget/api"
	"retarget/assemble"
	"retarget/encode"
	"retarget/machine"
)

// must returns a value that comes without an error.
func must[T any](x T, e api.Errno) T {
	if e != api.OK {
		panic(e)
	}
	return x
}

// pieces returns the pieces At, Len, At, Len and so on.
func pieces(places ...int) []api.MachPiece {
	var l []api.MachPiece
	for i := 0; i < len(places); i += 2 {
		l = append(l, api.MachPiece{At: places[i], Len: places[i+1]})
	}
	return l
}

// register returns an operand that is a register of a bank.
func register(bank int, places ...int) api.MachOperand {
	return api.MachOperand{Kind: api.OperandReg, Bank: bank, Pieces: pieces(places...), Tied: -1}
}

// tied returns an operand that is the same register as another one.
func tied(bank, to int) api.MachOperand {
	return api.MachOperand{Kind: api.OperandReg, Bank: bank, Tied: to}
}

// number returns an operand that is a number.
func number(kind uint8, scale int, places ...int) api.MachOperand {
	return api.MachOperand{Kind: kind, Scale: scale, Pieces: pieces(places...), Tied: -1}
}

// instr returns an instruction without effects; operands are named a, b, c and so on.
func instr(name string, mask, match uint64, operands ...api.MachOperand) api.MachInstr {
	for i := range operands {
		operands[i].Name = string(rune('a' + i))
	}
	return api.MachInstr{Name: name, Mask: mask, Match: match, Operands: operands, Busy: 1, Latency: 1}
}

// The banks of a machine that is made.
const (
	bank2 = iota // x3 and x0
	bank3        // x1, x4 and x0
	bank8        // x7 to x0
)

// made returns a machine with words of this many bytes, addresses of 32 bits, the registers x0 to x7 and x9, which is in no bank, and the banks above.
func made(word int, instrs ...api.MachInstr) api.Machine {
	m := api.Machine{Name: "made", Word: word, Address: 32, Units: []api.MachUnit{{Name: "u", Count: 1}}, Instrs: instrs}
	for i := range 8 {
		m.Regs = append(m.Regs, api.MachReg{Name: "x" + strconv.Itoa(i), Width: 8, Of: -1})
	}
	m.Regs = append(m.Regs, api.MachReg{Name: "x9", Width: 8, Of: -1})
	m.Banks = []api.MachBank{{Name: "b2", Regs: []int{3, 0}}, {Name: "b3", Regs: []int{1, 4, 0}}, {Name: "b8", Regs: []int{7, 6, 5, 4, 3, 2, 1, 0}}}
	return m
}

// small returns a machine whose words have one byte: jump and odd have places from 4 words behind to 3 words before the next one, odd only every second one; both is legal for the same words as one with the number 3.
func small() api.Machine {
	return made(1,
		instr("none", 0xff, 0x00),
		instr("jump", 0xf8, 0x10, number(api.OperandJump, 0, 0, 3)),
		instr("odd", 0xfc, 0x18, number(api.OperandJump, 1, 0, 2)),
		instr("one", 0xf0, 0x20, number(api.OperandUnsigned, 0, 0, 4)),
		instr("both", 0xff, 0x23),
		instr("low", 0xf0, 0x30, number(api.OperandSigned, 1, 0, 4)),
		instr("reg", 0xe0, 0x40, register(bank3, 0, 2), register(bank8, 2, 3)),
		instr("tie", 0xf0, 0x60, register(bank3, 0, 2), tied(bank3, 0), number(api.OperandUnsigned, 3, 2, 2)),
		instr("all", 0x80, 0x80, register(bank2, 6, 1), number(api.OperandSigned, 0, 4, 2), number(api.OperandUnsigned, 0, 2, 2), number(api.OperandJump, 0, 0, 2)),
	)
}

// limit returns 2^(8 Word).
func limit(m api.Machine) uint64 { return []uint64{0, 0x100, 0x10000, 0x1000000, 0x100000000}[m.Word] }

// labels returns the labels that are written as a name, =, and a place.
func labels(l ...string) []api.AsmLabel {
	var all []api.AsmLabel
	for _, s := range l {
		name, place, _ := strings.Cut(s, "=")
		at, e := strconv.Atoi(place)
		if e != nil {
			panic(e)
		}
		all = append(all, api.AsmLabel{Name: name, At: at})
	}
	return all
}

// program returns a program.
func program(words []uint64, l ...string) api.AsmProgram {
	return api.AsmProgram{Words: words, Labels: labels(l...)}
}

// sameProgram reports whether two programs are equal.
func sameProgram(a, b api.AsmProgram) bool {
	return slices.Equal(a.Words, b.Words) && slices.Equal(a.Labels, b.Labels)
}

// short returns how a program begins.
func short(p api.AsmProgram) string { return fmt.Sprintf("%.300s", fmt.Sprintf("%x", p)) }

// reads fails unless Read returns the program.
func reads(t *testing.T, m api.Machine, s string, want api.AsmProgram) {
	t.Helper()
	if p, line, e := assemble.Read(m, s); !sameProgram(p, want) || line != 0 || e != api.OK {
		t.Errorf("%s %.300q: %s, line %d, %v, not %s", m.Name, s, short(p), line, e, short(want))
	}
}

// readsNot fails unless Read returns the error, in this line.
func readsNot(t *testing.T, m api.Machine, s string, line int, want api.Errno) {
	t.Helper()
	if p, n, e := assemble.Read(m, s); !reflect.DeepEqual(p, api.AsmProgram{}) || n != line || e != want {
		t.Errorf("%s %.300q: %v in line %d, not %v in line %d; %s", m.Name, s, e, n, want, line, short(p))
	}
}

// checks fails unless Check returns the error.
func checks(t *testing.T, m api.Machine, p api.AsmProgram, want api.Errno) {
	t.Helper()
	if e := assemble.Check(m, p); e != want {
		t.Errorf("%s %s: %v, not %v", m.Name, short(p), e, want)
	}
}

// prints fails unless Print returns the text.
func prints(t *testing.T, m api.Machine, p api.AsmProgram, want string) {
	t.Helper()
	if s, e := assemble.Print(m, p); s != want || e != api.OK {
		t.Errorf("%s %s: %.300q %v, not %.300q", m.Name, short(p), s, e, want)
	}
}

// printsNot fails unless Print returns the error.
func printsNot(t *testing.T, m api.Machine, p api.AsmProgram, want api.Errno) {
	t.Helper()
	if s, e := assemble.Print(m, p); s != "" || e != want {
		t.Errorf("%s %s: %.300q %v, not %v", m.Name, short(p), s, e, want)
	}
}

// A maker makes values by chance, always the same ones.
type maker struct{ *rand.Rand }

func newMaker(seed uint64) maker { return maker{rand.New(rand.NewPCG(seed, 13))} }

func pick[T any](r maker, l []T) T { return l[r.IntN(len(l))] }

// machine returns a valid machine with words of this many bytes and one to six instructions, which can have the names of registers and labels.
func (r maker) machine(word int) api.Machine {
	m := made(word)
	names := append(r.names(), "x1", "add", "sub", "st", "N_1")
	r.Shuffle(len(names), func(i, k int) { names[i], names[k] = names[k], names[i] })
	for _, name := range names[:1+r.IntN(6)] {
		x := r.instr(word)
		x.Name = name
		m.Instrs = append(m.Instrs, x)
	}
	if e := machine.Check(m); e != api.OK {
		panic(e)
	}
	return m
}

// names returns the names of labels.
func (r maker) names() []string {
	return []string{"a", "b", "A", "a_", "b0", "loop", "end", "x0", "x9", strings.Repeat("long", 6)}
}

// instr returns an instruction whose fields, mask and bits that must be 0 are mixed by chance.
func (r maker) instr(word int) api.MachInstr {
	free := r.Perm(8 * word)
	if r.IntN(3) > 0 {
		slices.Sort(free)
	}
	var operands []api.MachOperand
	for range r.IntN(api.MaxOperands + 1) {
		to := r.IntN(len(operands) + 1)
		if to < len(operands) && r.IntN(3) > 0 && operands[to].Kind == api.OperandReg && operands[to].Tied == -1 {
			operands = append(operands, tied(operands[to].Bank, to))
		} else if len(free) > 0 {
			var o api.MachOperand
			o, free = r.operand(free)
			operands = append(operands, o)
		}
	}
	i := instr("", 0, 0, operands...)
	for _, at := range free {
		switch r.IntN(5) {
		case 0, 1:
			i.Mask |= 1 << at
		case 2, 3:
			i.Mask |= 1 << at
			i.Match |= 1 << at
		}
	}
	return i
}

// operand returns an operand in the first ones of the free bits, and those that are left.
func (r maker) operand(free []int) (api.MachOperand, []int) {
	many := min(len(free), 1+r.IntN(5))
	for len(together(free[:many])) > api.MaxPieces {
		many--
	}
	l, rest := together(free[:many]), free[many:]
	kind := pick(r, []uint8{api.OperandReg, api.OperandSigned, api.OperandUnsigned, api.OperandJump, api.OperandJump})
	if kind == api.OperandReg {
		return api.MachOperand{Kind: kind, Bank: r.IntN(min(many, 3)), Pieces: l, Tied: -1}, rest
	}
	return api.MachOperand{Kind: kind, Scale: max(0, r.IntN(6)-2), Pieces: l, Tied: -1}, rest
}

// together returns the pieces that have these bits, in their order.
func together(bits []int) []api.MachPiece {
	var l []api.MachPiece
	for _, at := range bits {
		if n := len(l) - 1; n >= 0 && l[n].At+l[n].Len == at {
			l[n].Len++
		} else {
			l = append(l, api.MachPiece{At: at, Len: 1})
		}
	}
	return l
}

// op returns an op of an instruction of m.
func (r maker) op(m api.Machine, instr int) api.MachOp {
	op := api.MachOp{Instr: instr}
	for _, o := range m.Instrs[instr].Operands {
		least, most := bounds(o)
		switch {
		case o.Tied != -1:
			op.Args = append(op.Args, op.Args[o.Tied])
		case o.Kind == api.OperandReg:
			op.Args = append(op.Args, pick(r, m.Banks[o.Bank].Regs))
		case r.IntN(2) == 0:
			op.Args = append(op.Args, max(least, min(most, r.IntN(9)-4))<<o.Scale)
		default:
			op.Args = append(op.Args, (least+r.IntN(most-least+1))<<o.Scale)
		}
	}
	return op
}

// program returns a valid program, mostly with words that an op has.
func (r maker) program(m api.Machine, most int) api.AsmProgram {
	var p api.AsmProgram
	for range r.IntN(most + 1) {
		word := r.Uint64N(limit(m))
		if r.IntN(8) > 0 {
			word = must(encode.Encode(m, r.op(m, r.IntN(len(m.Instrs)))))
		}
		p.Words = append(p.Words, word)
	}
	for _, name := range r.names() {
		if r.IntN(2) == 0 {
			p.Labels = append(p.Labels, api.AsmLabel{Name: name, At: r.IntN(len(p.Words) + 1)})
		}
	}
	sortLabels(p.Labels)
	return p
}

// loose returns the text of tokens with other spaces, remarks, empty lines and forms of numbers.
func (r maker) loose(tokens []api.LexToken) string {
	var out strings.Builder
	for _, t := range tokens {
		switch {
		case t.Kind == api.TokenLine:
			out.WriteString(pick(r, []string{"\n", "\n", "\n", " \n", " # a: b\n", "#\n", "\n\n", "\n \n#x\n"}))
		case t.Kind == api.TokenText:
			out.WriteString(`"` + t.Text + `"`)
		case t.Kind == api.TokenNumber && t.Number >= 0 && r.IntN(3) == 0:
			out.WriteString(pick(r, []string{"0x" + strconv.FormatInt(int64(t.Number), 16), strconv.Itoa(t.Number)}))
		default:
			out.WriteString(t.Text)
		}
		if t.Kind != api.TokenLine {
			out.WriteString(pick(r, []string{" ", " ", " ", "   "}))
		}
	}
	return out.String()
}

// spoiled returns tokens, a few of which are others, missing or more, or in another place.
func (r maker) spoiled(m api.Machine, tokens []api.LexToken) []api.LexToken {
	l := slices.Clone(tokens)
	for range r.IntN(3) {
		at := r.IntN(len(l) + 1)
		switch to := min(at+1, len(l)); r.IntN(6) {
		case 0, 1:
			l = slices.Replace(l, at, to, r.token(m))
		case 2:
			l = slices.Insert(l, at, r.token(m))
		case 3:
			l = slices.Delete(l, at, to)
		case 4:
			to = min(len(l), at+r.IntN(6))
			l = slices.Insert(l, r.IntN(len(l)+1), slices.Clone(l[at:to])...)
		case 5:
			l = slices.Delete(l, at, min(len(l), at+r.IntN(6)))
		}
	}
	return l
}

// token returns a token that can stand in a text for m.
func (r maker) token(m api.Machine) api.LexToken {
	name := func(s string) api.LexToken { return api.LexToken{Kind: api.TokenName, Text: s} }
	switch r.IntN(8) {
	case 0:
		return name(pick(r, m.Instrs).Name)
	case 1:
		return name(pick(r, m.Regs).Name)
	case 2:
		return name(pick(r, append(r.names(), "other", "b2", "made", "u")))
	case 3, 4:
		n := pick(r, []int{r.IntN(40) - 20, r.IntN(1 << 10), -1 - r.IntN(1<<10), int(limit(m)), int(limit(m)) - 1, 99999999999999999})
		return api.LexToken{Kind: api.TokenNumber, Text: strconv.Itoa(n), Number: n}
	case 5:
		return api.LexToken{Kind: api.TokenText, Text: pick(r, []string{"", ",", ":", "@", "x0", "a", "1"})}
	case 6:
		return api.LexToken{Kind: api.TokenLine, Text: "\n"}
	}
	return api.LexToken{Kind: api.TokenMark, Text: pick(r, []string{",", ":", "@", "@", ",", "=", "(", "/"})}
}
