package describe

import (
	"slices"

	"retarget/api"
	"retarget/term"
)

// The kinds of lines, in the order in which they stand.
const (
	nothing = iota // above the first line
	head
	reg
	bank
	unit
	instr
	operand
	effect
)

// A form is how the lines that begin with a word are read. They are of a kind, and stand under lines of the kinds from first to last.
type form struct {
	kind, first, last int
	read              func()
}

// A reader puts a machine together from lines. It is at a line of which the tokens in rest have not been taken yet, and notes the first error that it finds there.
type reader struct {
	api.Machine
	forms map[string]form
	regs  []string // the names of the registers, also of those in lines below
	above int      // the kind of the line above
	rest  []api.LexToken
	found api.Errno
}

// newReader returns a reader of the lines, which has read none of them.
func newReader(lines [][]api.LexToken) *reader {
	r := &reader{}
	r.forms = map[string]form{
		"machine": {head, nothing, nothing, r.readHead},
		"reg":     {reg, head, reg, r.readReg},
		"bank":    {bank, head, bank, r.readBank},
		"unit":    {unit, head, unit, r.readUnit},
		"instr":   {instr, head, effect, r.readInstr},
		"operand": {operand, instr, operand, r.readOperand},
		"set":     {effect, instr, effect, r.readSet},
		"fix":     {effect, instr, effect, r.readFix},
		"store":   {effect, instr, effect, r.readStore},
		"goto":    {effect, instr, effect, r.readGoto},
		"trap":    {effect, instr, effect, r.readTrap},
	}
	for _, line := range lines {
		if len(line) > 1 && isOneOf(line[0], "reg") && line[1].Kind == api.TokenName {
			r.regs = append(r.regs, line[1].Text)
		}
	}
	return r
}

// read reads a line that is not empty, and returns its error.
func (r *reader) read(line []api.LexToken) api.Errno {
	r.rest = line
	f, known := r.forms[take(r, name)]
	if !known || r.above < f.first || r.above > f.last {
		return api.ErrForm
	}
	r.above = f.kind
	f.read()
	if r.more() {
		return api.ErrForm
	}
	return r.found
}

// more reports whether the line is right so far, and goes on.
func (r *reader) more() bool { return r.found == api.OK && len(r.rest) > 0 }

// take takes the next token, and returns what it is read as. The token must be there and be right; otherwise nothing more is taken from the line.
func take[T any](r *reader, as func(api.LexToken) (T, api.Errno)) T {
	var x T
	if r.found != api.OK {
		return x
	}
	if len(r.rest) == 0 {
		r.found = api.ErrForm
		return x
	}
	x, r.found = as(r.rest[0])
	r.rest = r.rest[1:]
	return x
}

// after takes the token behind a word, which must stand before it.
func after[T any](r *reader, word string, as func(api.LexToken) (T, api.Errno)) T {
	r.pass(word)
	return take(r, as)
}

// pass takes a word or a mark that must stand here.
func (r *reader) pass(word string) { take(r, oneOf(word)) }

// oneOf reads a token as the one of the words or marks that it is.
func oneOf(words ...string) func(api.LexToken) (string, api.Errno) {
	return func(t api.LexToken) (string, api.Errno) { return t.Text, formUnless(isOneOf(t, words...)) }
}

// isOneOf looks at the kind too, because a text in quotation marks is no word.
func isOneOf(t api.LexToken, words ...string) bool {
	return (t.Kind == api.TokenName || t.Kind == api.TokenMark) && slices.Contains(words, t.Text)
}

func formUnless(ok bool) api.Errno {
	if ok {
		return api.OK
	}
	return api.ErrForm
}

func name(t api.LexToken) (string, api.Errno) {
	return t.Text, formUnless(t.Kind == api.TokenName)
}

func number(t api.LexToken) (int, api.Errno) {
	return t.Number, formUnless(t.Kind == api.TokenNumber)
}

func natural(t api.LexToken) (uint64, api.Errno) {
	return uint64(t.Number), formUnless(t.Kind == api.TokenNumber && t.Number >= 0)
}

func value(t api.LexToken) (api.Term, api.Errno) {
	if t.Kind != api.TokenText {
		return api.Term{}, api.ErrForm
	}
	return term.Parse(t.Text)
}

// find returns the index of the first element of l with the name that t is.
func find[T any](t api.LexToken, l []T, nameOf func(T) string) (int, api.Errno) {
	if t.Kind != api.TokenName {
		return 0, api.ErrForm
	}
	at := slices.IndexFunc(l, func(x T) bool { return nameOf(x) == t.Text })
	if at < 0 {
		return 0, api.ErrName
	}
	return at, api.OK
}

func (r *reader) ofReg(t api.LexToken) (int, api.Errno) {
	return find(t, r.regs, func(name string) string { return name })
}

func (r *reader) ofBank(t api.LexToken) (int, api.Errno) {
	return find(t, r.Banks, func(b api.MachBank) string { return b.Name })
}

func (r *reader) ofUnit(t api.LexToken) (int, api.Errno) {
	return find(t, r.Units, func(u api.MachUnit) string { return u.Name })
}

func (r *reader) ofOperand(t api.LexToken) (int, api.Errno) {
	return find(t, r.last().Operands, func(o api.MachOperand) string { return o.Name })
}

// last returns the instruction whose lines are read.
func (r *reader) last() *api.MachInstr { return &r.Instrs[len(r.Instrs)-1] }
