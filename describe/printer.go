package describe

import (
	"strconv"
	"strings"

	"retarget/api"
	"retarget/term"
)

// numberWords are the words of the kinds of operands that are numbers.
var numberWords = [...]string{api.OperandSigned: "signed", api.OperandUnsigned: "unsigned", api.OperandJump: "jump"}

// A printer writes the lines of a valid machine.
type printer struct {
	api.Machine
	text strings.Builder
}

// line writes a line of tokens.
func (p *printer) line(tokens ...string) {
	p.text.WriteString(strings.Join(tokens, " "))
	p.text.WriteByte('\n')
}

func decimal(n int) string { return strconv.Itoa(n) }

func sixteen(x uint64) string { return "0x" + strconv.FormatUint(x, 16) }

func quoted(t api.Term) string {
	text, _ := term.Text(t)
	return `"` + text + `"`
}

func (p *printer) print() {
	p.line("machine", p.Name, "word", decimal(p.Word), "address", decimal(p.Address))
	for _, r := range p.Regs {
		p.reg(r)
	}
	for _, b := range p.Banks {
		p.bank(b)
	}
	for _, u := range p.Units {
		p.line("unit", u.Name, decimal(u.Count))
	}
	for _, i := range p.Instrs {
		p.instr(i)
	}
}

func (p *printer) reg(r api.MachReg) {
	tokens := []string{"reg", r.Name, decimal(r.Width)}
	if r.Of != -1 {
		tokens = append(tokens, "in", p.Regs[r.Of].Name, "at", decimal(r.Low))
	}
	p.line(tokens...)
}

func (p *printer) bank(b api.MachBank) {
	tokens := []string{"bank", b.Name, ":"}
	for _, reg := range b.Regs {
		tokens = append(tokens, p.Regs[reg].Name)
	}
	p.line(tokens...)
}

func (p *printer) instr(i api.MachInstr) {
	p.line("instr", i.Name, "mask", sixteen(i.Mask), "match", sixteen(i.Match), "unit", p.Units[i.Unit].Name,
		"busy", decimal(i.Busy), "latency", decimal(i.Latency), "slots", decimal(i.Slots))
	for _, o := range i.Operands {
		p.operand(o, i.Operands)
	}
	for _, f := range i.Effects {
		p.effect(f, i.Operands)
	}
}

// operand writes the line of o, which is one of these operands.
func (p *printer) operand(o api.MachOperand, operands []api.MachOperand) {
	tokens := []string{"operand", o.Name}
	switch {
	case o.Tied != -1:
		tokens = append(tokens, "tied", operands[o.Tied].Name)
	case o.Kind == api.OperandReg:
		tokens = append(tokens, "reg", p.Banks[o.Bank].Name)
	default:
		tokens = append(tokens, numberWords[o.Kind], "scale", decimal(o.Scale))
	}
	for _, piece := range o.Pieces {
		tokens = append(tokens, "at", decimal(piece.At), "len", decimal(piece.Len))
	}
	p.line(tokens...)
}

// effect writes the line of an effect of an instruction with these operands.
func (p *printer) effect(f api.MachEffect, operands []api.MachOperand) {
	value := quoted(f.Value)
	switch {
	case f.Kind == api.EffectReg && f.Operand == -1:
		p.line("fix", p.Regs[f.Reg].Name, value)
	case f.Kind == api.EffectReg:
		p.line("set", operands[f.Operand].Name, value)
	case f.Kind == api.EffectStore:
		p.line("store", quoted(f.Addr), value)
	case f.Kind == api.EffectTrap:
		p.line("trap", value)
	case f.Cond.Kind == 0:
		p.line("goto", value)
	default:
		p.line("goto", value, "if", quoted(f.Cond))
	}
}
