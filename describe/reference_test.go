package describe_test

import (
	"fmt"
	"regexp"
	"slices"
	"strings"

	"retarget/api"
	"retarget/lexer"
	"retarget/machine"
	"retarget/term"
)

// This file says again what the text of a machine is, and what a description is: the forms of lines are written down as in the document, and lines are held against all that a form can be.

// textOf returns the text of a machine that is valid, of any length.
func textOf(m api.Machine) string {
	s := fmt.Sprintf("machine %s word %d address %d\n", m.Name, m.Word, m.Address)
	for _, r := range m.Regs {
		if r.Of == -1 {
			s += fmt.Sprintf("reg %s %d\n", r.Name, r.Width)
		} else {
			s += fmt.Sprintf("reg %s %d in %s at %d\n", r.Name, r.Width, m.Regs[r.Of].Name, r.Low)
		}
	}
	for _, b := range m.Banks {
		s += "bank " + b.Name + " :"
		for _, r := range b.Regs {
			s += " " + m.Regs[r].Name
		}
		s += "\n"
	}
	for _, u := range m.Units {
		s += fmt.Sprintf("unit %s %d\n", u.Name, u.Count)
	}
	for _, i := range m.Instrs {
		s += fmt.Sprintf("instr %s mask 0x%x match 0x%x unit %s busy %d latency %d slots %d\n", i.Name, i.Mask, i.Match, m.Units[i.Unit].Name, i.Busy, i.Latency, i.Slots)
		for _, o := range i.Operands {
			s += "operand " + o.Name + " " + operandOf(m, i, o)
			for _, p := range o.Pieces {
				s += fmt.Sprintf(" at %d len %d", p.At, p.Len)
			}
			s += "\n"
		}
		for _, f := range i.Effects {
			s += effectOf(m, i, f) + "\n"
		}
	}
	return s
}

func operandOf(m api.Machine, i api.MachInstr, o api.MachOperand) string {
	switch o.Kind {
	case 2:
		return fmt.Sprintf("signed scale %d", o.Scale)
	case 3:
		return fmt.Sprintf("unsigned scale %d", o.Scale)
	case 4:
		return fmt.Sprintf("jump scale %d", o.Scale)
	}
	if o.Tied >= 0 {
		return "tied " + i.Operands[o.Tied].Name
	}
	return "reg " + m.Banks[o.Bank].Name
}

func effectOf(m api.Machine, i api.MachInstr, f api.MachEffect) string {
	text := func(t api.Term) string { return `"` + must(term.Text(t)) + `"` }
	switch f.Kind {
	case 1:
		if f.Operand < 0 {
			return "fix " + m.Regs[f.Reg].Name + " " + text(f.Value)
		}
		return "set " + i.Operands[f.Operand].Name + " " + text(f.Value)
	case 2:
		return "store " + text(f.Addr) + " " + text(f.Value)
	case 3:
		if term.Same(f.Cond, api.Term{}) {
			return "goto " + text(f.Value)
		}
		return "goto " + text(f.Value) + " if " + text(f.Cond)
	}
	return "trap " + text(f.Value)
}

// referencePrint returns what Print should return.
func referencePrint(m api.Machine) (string, api.Errno) {
	if e := machine.Check(m); e != api.OK {
		return "", e
	}
	s := textOf(m)
	if len(s) > 65536 {
		return "", api.ErrMany
	}
	return s, api.OK
}

// The forms of lines. M is a number of at least 0; what stands between brackets may come any number of times, at the end.
var lineForms = strings.Split(`machine NAME word N address N
reg NAME N
reg NAME N in REG at N
bank NAME : [REG]
unit NAME N
instr NAME mask M match M unit UNIT busy N latency N slots N
operand NAME reg BANK [at N len N]
operand NAME tied OPERAND
operand NAME signed scale N [at N len N]
operand NAME unsigned scale N [at N len N]
operand NAME jump scale N [at N len N]
set OPERAND TERM
fix REG TERM
store TERM TERM
goto TERM
goto TERM if TERM
trap TERM`, "\n")

// patterns returns what the form can be in a line of at most so many tokens, and a bit longer.
func patterns(form string, many int) [][]string {
	start, repeated, repeats := strings.Cut(strings.TrimSuffix(form, "]"), " [")
	all := [][]string{strings.Fields(start)}
	for repeats && len(all[len(all)-1]) <= many {
		longer := append(slices.Clone(all[len(all)-1]), strings.Fields(repeated)...)
		all = append(all, longer)
	}
	return all
}

// letters are the kinds of lines; the lines of a description are in an order like this.
var (
	letters = map[string]string{"machine": "M", "reg": "R", "bank": "B", "unit": "U", "instr": "I", "operand": "O", "set": "E", "fix": "E", "store": "E", "goto": "E", "trap": "E"}
	inOrder = regexp.MustCompile(`^MR*B*U*(IO*E*)*$`)
)

// A described machine has the names that lines may have.
type described struct {
	api.Machine
	regs  []string
	order string
}

func (d *described) names(what string) []string {
	var l []string
	switch what {
	case "REG":
		l = d.regs
	case "BANK":
		for _, b := range d.Banks {
			l = append(l, b.Name)
		}
	case "UNIT":
		for _, u := range d.Units {
			l = append(l, u.Name)
		}
	case "OPERAND":
		for _, o := range d.Instrs[len(d.Instrs)-1].Operands {
			l = append(l, o.Name)
		}
	}
	return l
}

// is returns the error of a token where the form says what.
func (d *described) is(t api.LexToken, what string) api.Errno {
	var ok bool
	switch what {
	case "NAME":
		ok = t.Kind == api.TokenName
	case "N":
		ok = t.Kind == api.TokenNumber
	case "M":
		ok = t.Kind == api.TokenNumber && !strings.HasPrefix(t.Text, "-")
	case "TERM":
		_, e := term.Parse(t.Text)
		ok = t.Kind == api.TokenText && e == api.OK
	case "REG", "BANK", "UNIT", "OPERAND":
		if ok = t.Kind == api.TokenName; ok && !slices.Contains(d.names(what), t.Text) {
			return api.ErrName
		}
	case ":":
		ok = t.Kind == api.TokenMark && t.Text == ":"
	default:
		ok = t.Kind == api.TokenName && t.Text == what
	}
	if !ok {
		return api.ErrForm
	}
	return api.OK
}

// errorOf returns the error of a line, and what the line is if it has none. Of all that the line could be, it is what is right for the most tokens.
func (d *described) errorOf(line []api.LexToken) ([]string, api.Errno) {
	letter := letters[line[0].Text]
	if line[0].Kind != api.TokenName || letter == "" || !inOrder.MatchString(d.order+letter) {
		return nil, api.ErrForm
	}
	most, found := -1, api.ErrForm
	for _, form := range lineForms {
		for _, p := range patterns(form, len(line)) {
			right, e := 0, api.OK
			for right < min(len(p), len(line)) && e == api.OK {
				if e = d.is(line[right], p[right]); e == api.OK {
					right++
				}
			}
			if e == api.OK && len(p) != len(line) {
				e = api.ErrForm
			} else if e == api.OK {
				return p, api.OK
			}
			if right > most {
				most, found = right, e
			} else if right == most && e == api.ErrName {
				found = e
			}
		}
	}
	return nil, found
}

// add adds what a line without an error says; p is the form that it has.
func (d *described) add(line []api.LexToken, p []string) {
	d.order += letters[p[0]]
	n := func(word string) int { return line[slices.Index(p, word)+1].Number }
	find := func(i int) int { return slices.Index(d.names(p[i]), line[i].Text) }
	terms := func(i int) api.Term { return must(term.Parse(line[i].Text)) }
	name := ""
	if len(line) > 1 {
		name = line[1].Text
	}
	var i *api.MachInstr
	if len(d.Instrs) > 0 {
		i = &d.Instrs[len(d.Instrs)-1]
	}
	effect := func(f api.MachEffect) { i.Effects = append(i.Effects, f) }
	switch p[0] {
	case "machine":
		d.Name, d.Word, d.Address = name, n("word"), n("address")
	case "reg":
		r := api.MachReg{Name: name, Width: line[2].Number, Of: -1}
		if len(p) > 3 {
			r.Of, r.Low = find(4), n("at")
		}
		d.Regs = append(d.Regs, r)
	case "bank":
		b := api.MachBank{Name: name}
		for k := range line[3:] {
			b.Regs = append(b.Regs, find(3+k))
		}
		d.Banks = append(d.Banks, b)
	case "unit":
		d.Units = append(d.Units, api.MachUnit{Name: name, Count: line[2].Number})
	case "instr":
		d.Instrs = append(d.Instrs, api.MachInstr{Name: name, Mask: uint64(n("mask")), Match: uint64(n("match")), Unit: find(7), Busy: n("busy"), Latency: n("latency"), Slots: n("slots")})
	case "operand":
		i.Operands = append(i.Operands, d.operand(line, p, find(3)))
	case "set":
		effect(api.MachEffect{Kind: 1, Operand: find(1), Value: terms(2)})
	case "fix":
		effect(api.MachEffect{Kind: 1, Operand: -1, Reg: find(1), Value: terms(2)})
	case "store":
		effect(api.MachEffect{Kind: 2, Addr: terms(1), Value: terms(2)})
	case "goto":
		f := api.MachEffect{Kind: 3, Value: terms(1)}
		if len(p) == 4 {
			f.Cond = terms(3)
		}
		effect(f)
	case "trap":
		effect(api.MachEffect{Kind: 4, Value: terms(1)})
	}
}

func (d *described) operand(line []api.LexToken, p []string, found int) api.MachOperand {
	o := api.MachOperand{Name: line[1].Text, Tied: -1}
	switch p[2] {
	case "reg":
		o.Kind, o.Bank = 1, found
	case "tied":
		o.Kind, o.Bank, o.Tied = 1, d.Instrs[len(d.Instrs)-1].Operands[found].Bank, found
	default:
		o.Kind, o.Scale = map[string]uint8{"signed": 2, "unsigned": 3, "jump": 4}[p[2]], line[4].Number
	}
	for k, word := range p {
		if word == "len" {
			o.Pieces = append(o.Pieces, api.MachPiece{At: line[k-1].Number, Len: line[k+1].Number})
		}
	}
	return o
}

// referenceRead returns what Read should return.
func referenceRead(s string) (m api.Machine, line int, e api.Errno) {
	l, at, e := lexer.Tokens(s)
	switch e {
	case api.ErrMany:
		return m, 0, e
	case api.ErrForm:
		return m, len(strings.Split(s[:at], "\n")), e
	}
	d := &described{}
	lines := lexer.Lines(l)
	for _, l := range lines {
		if len(l) >= 2 && l[0].Kind == api.TokenName && l[0].Text == "reg" && l[1].Kind == api.TokenName {
			d.regs = append(d.regs, l[1].Text)
		}
	}
	for i, l := range lines {
		if len(l) == 0 {
			continue
		}
		p, e := d.errorOf(l)
		if e != api.OK {
			return m, i + 1, e
		}
		d.add(l, p)
	}
	if d.order == "" {
		return m, 0, api.ErrForm
	}
	if e := machine.Check(d.Machine); e != api.OK {
		return m, 0, e
	}
	return d.Machine, 0, api.OK
}
