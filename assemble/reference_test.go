package assemble_test

import (
	"fmt"
	"sort"
	"strconv"
	"strings"

	"retarget/api"
	"retarget/bits"
	"retarget/encode"
	"retarget/lexer"
)

// What follows is the chapter's definitions, written down a second time: every line looks through all lines above it.

// sortLabels puts labels in order.
func sortLabels(l []api.AsmLabel) {
	sort.Slice(l, func(i, k int) bool { return l[i].At < l[k].At || l[i].At == l[k].At && l[i].Name < l[k].Name })
}

// referenceValid reports whether p is valid for m.
func referenceValid(m api.Machine, p api.AsmProgram) bool {
	ok := len(p.Words) <= 4096 && len(p.Labels) <= 1000
	for _, word := range p.Words {
		ok = ok && word < limit(m)
	}
	for i, a := range p.Labels {
		ok = ok && bits.Name(a.Name) && 0 <= a.At && a.At <= len(p.Words)
		for _, b := range p.Labels[:i] {
			ok = ok && a.Name != b.Name && (b.At < a.At || b.At == a.At && b.Name < a.Name)
		}
	}
	return ok
}

// A sheet is a text in lines, each of them its tokens.
type sheet [][]api.LexToken

func sheetOf(s string) sheet {
	var all sheet
	for _, part := range strings.Split(s, "\n") {
		l, at, e := lexer.Tokens(part)
		if e != api.OK {
			panic(fmt.Sprint(part, at, e))
		}
		all = append(all, l)
	}
	return all
}

// has reports whether the token k of a line is there, and of a kind, and one of texts if there are any.
func has(l []api.LexToken, k int, kind uint8, texts ...string) bool {
	if k >= len(l) || l[k].Kind != kind {
		return false
	}
	for _, text := range texts {
		if l[k].Text == text {
			return true
		}
	}
	return len(texts) == 0
}

// labelled reports whether the line n is a label.
func (s sheet) labelled(n int) bool {
	return len(s[n]) == 2 && has(s[n], 0, api.TokenName) && has(s[n], 1, api.TokenMark, ":")
}

// above returns the numbers of words and of labels above the line n.
func (s sheet) above(n int) (words, labels int) {
	for i, l := range s[:n] {
		if s.labelled(i) {
			labels++
		} else if len(l) > 0 {
			words++
		}
	}
	return words, labels
}

// place returns the place of the first label with a name, or -1.
func (s sheet) place(name string) int {
	for i := range s {
		if s.labelled(i) && s[i][0].Text == name {
			words, _ := s.above(i)
			return words
		}
	}
	return -1
}

// labelError returns the error of the line n, which is a label.
func (s sheet) labelError(n int) api.Errno {
	if _, labels := s.above(n); labels >= 1000 {
		return api.ErrMany
	}
	for i := range n {
		if s.labelled(i) && s[i][0].Text == s[n][0].Text {
			return api.ErrTwice
		}
	}
	return api.OK
}

// A step tells whether a token is what is expected at its place.
type step func(t api.LexToken) api.Errno

// follow returns the error of the first token that is not what is expected.
func follow(l []api.LexToken, steps []step) api.Errno {
	for k, t := range l {
		if k >= len(steps) {
			return api.ErrForm
		}
		if e := steps[k](t); e != api.OK {
			return e
		}
	}
	if len(l) < len(steps) {
		return api.ErrForm
	}
	return api.OK
}

// form returns ErrForm unless ok.
func form(ok bool) api.Errno {
	if ok {
		return api.OK
	}
	return api.ErrForm
}

// wordOf returns the word in the line n, or its error.
func (s sheet) wordOf(m api.Machine, n int) (word uint64, e api.Errno) {
	l := s[n]
	index, _ := s.above(n)
	if index >= 4096 {
		return 0, api.ErrMany
	}
	if has(l, 0, api.TokenMark, "@") {
		return uint64(number0(l, 1)), follow(l[1:], []step{func(t api.LexToken) api.Errno {
			if t.Kind != api.TokenNumber {
				return api.ErrForm
			}
			if t.Number < 0 || t.Number >= int(limit(m)) {
				return api.ErrRange
			}
			return api.OK
		}})
	}
	if !has(l, 0, api.TokenName) {
		return 0, api.ErrForm
	}
	for i, x := range m.Instrs {
		if x.Name == l[0].Text {
			op := api.MachOp{Instr: i, Args: make([]int, len(x.Operands))}
			if e := follow(l[1:], s.steps(m, op, index)); e != api.OK {
				return 0, e
			}
			for k, o := range x.Operands {
				if o.Tied != -1 {
					op.Args[k] = op.Args[o.Tied]
				}
			}
			return must(encode.Encode(m, op)), api.OK
		}
	}
	return 0, api.ErrName
}

// number0 returns the value of the token k, or 0 if there is none.
func number0(l []api.LexToken, k int) int {
	if k < len(l) {
		return l[k].Number
	}
	return 0
}

// steps returns what is expected behind the name of an instruction; the steps set the arguments of op.
func (s sheet) steps(m api.Machine, op api.MachOp, index int) []step {
	var all []step
	for k, o := range m.Instrs[op.Instr].Operands {
		if o.Tied != -1 {
			continue
		}
		if len(all) > 0 {
			all = append(all, func(t api.LexToken) api.Errno { return form(t.Kind == api.TokenMark && t.Text == ",") })
		}
		all = append(all, func(t api.LexToken) api.Errno {
			var e api.Errno
			op.Args[k], e = s.arg(m, o, t, index)
			return e
		})
	}
	return all
}

// arg returns what a token stands for as an operand of the word with this index.
func (s sheet) arg(m api.Machine, o api.MachOperand, t api.LexToken, index int) (int, api.Errno) {
	n := t.Number
	switch {
	case o.Kind == api.OperandReg && t.Kind == api.TokenName:
		for _, reg := range m.Banks[o.Bank].Regs {
			if m.Regs[reg].Name == t.Text {
				return reg, api.OK
			}
		}
		return 0, api.ErrName
	case o.Kind == api.OperandJump && t.Kind == api.TokenName:
		place := s.place(t.Text)
		if place < 0 {
			return 0, api.ErrName
		}
		n = place - (index + 1)
	case o.Kind == api.OperandReg || t.Kind != api.TokenNumber:
		return 0, api.ErrForm
	}
	least, most := bounds(o)
	if scale := 1 << o.Scale; n%scale != 0 || n/scale < least || n/scale > most {
		return 0, api.ErrRange
	}
	return n, api.OK
}

// bounds returns the least and the greatest integer that the field of a number stands for, before it is scaled.
func bounds(o api.MachOperand) (least, most int) {
	size := 1
	for _, p := range o.Pieces {
		for range p.Len {
			size *= 2
		}
	}
	if o.Kind == api.OperandUnsigned {
		return 0, size - 1
	}
	return -size / 2, size/2 - 1
}

// referenceRead is the chapter's definition of Read for a valid machine.
func referenceRead(m api.Machine, text string) (p api.AsmProgram, line int, e api.Errno) {
	if _, at, e := lexer.Tokens(text); e == api.ErrForm {
		return api.AsmProgram{}, len(strings.Split(text[:at], "\n")), e
	} else if e != api.OK {
		return api.AsmProgram{}, 0, e
	}
	s := sheetOf(text)
	for n, l := range s {
		if len(l) == 0 {
			continue
		}
		if s.labelled(n) {
			words, _ := s.above(n)
			p.Labels = append(p.Labels, api.AsmLabel{Name: l[0].Text, At: words})
			e = s.labelError(n)
		} else {
			var word uint64
			word, e = s.wordOf(m, n)
			p.Words = append(p.Words, word)
		}
		if e != api.OK {
			return api.AsmProgram{}, n + 1, e
		}
	}
	sortLabels(p.Labels)
	return p, 0, api.OK
}

// referenceText is the chapter's text of a program that is valid for m.
func referenceText(m api.Machine, p api.AsmProgram) string {
	var lines []string
	for i := range len(p.Words) + 1 {
		for _, l := range p.Labels {
			if l.At == i {
				lines = append(lines, l.Name+":")
			}
		}
		if i < len(p.Words) {
			lines = append(lines, referenceWord(m, p, i))
		}
	}
	if len(lines) == 0 {
		return ""
	}
	return strings.Join(lines, "\n") + "\n"
}

// referenceWord is how the word i of a program is written.
func referenceWord(m api.Machine, p api.AsmProgram, i int) string {
	op, e := encode.Decode(m, p.Words[i])
	if e != api.OK {
		return fmt.Sprintf("@ %#x", p.Words[i])
	}
	x := m.Instrs[op.Instr]
	line, sign := x.Name, " "
	for k, o := range x.Operands {
		if o.Tied != -1 {
			continue
		}
		s := strconv.Itoa(op.Args[k])
		if o.Kind == api.OperandReg {
			s = m.Regs[op.Args[k]].Name
		}
		if at := op.Args[k] + i + 1; o.Kind == api.OperandJump {
			for _, l := range p.Labels {
				if l.At == at {
					s = l.Name
					break
				}
			}
		}
		line += sign + s
		sign = ", "
	}
	return line
}
