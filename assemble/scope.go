package assemble

import (
	"slices"
	"strconv"
	"strings"

	"retarget/api"
	"retarget/encode"
	"retarget/format"
)

// A form is how the arguments of operands of a kind stand in a text. It gets the index of the word too, because a label stands for the distance from there.
type form struct {
	read  func(o api.MachOperand, t api.LexToken, index int) (int, api.Errno)
	write func(arg, index int) string
}

// A scope is what stands behind the names in a text: the parts of a machine, and labels.
type scope struct {
	api.Machine
	places map[string]int // of the first labels with these names
	names  map[int]string // of the first labels at these places
	forms  map[uint8]form // of the kinds of operands
}

// newScope returns the scope of a text for a valid machine with these labels.
func newScope(m api.Machine, labels []api.AsmLabel) *scope {
	s := &scope{Machine: withoutEffects(m), places: map[string]int{}, names: map[int]string{}}
	// Backward, because the first one of several counts.
	for _, l := range slices.Backward(labels) {
		s.places[l.Name], s.names[l.At] = l.At, l.Name
	}
	s.forms = map[uint8]form{
		api.OperandReg:      {s.readReg, s.writeReg},
		api.OperandSigned:   {readNumber, writeNumber},
		api.OperandUnsigned: {readNumber, writeNumber},
		api.OperandJump:     {s.readPlace, s.writePlace},
	}
	return s
}

// withoutEffects returns a valid machine with the same ops and words. Package encode checks the machine again for each word, and terms of effects can make that fifty times as long.
func withoutEffects(m api.Machine) api.Machine {
	m.Instrs = slices.Clone(m.Instrs)
	for i := range m.Instrs {
		// Slots go as well: only an instruction that jumps may have any.
		m.Instrs[i].Effects, m.Instrs[i].Slots = nil, 0
	}
	return m
}

func (s *scope) readReg(o api.MachOperand, t api.LexToken, _ int) (int, api.Errno) {
	if t.Kind != api.TokenName {
		return 0, api.ErrForm
	}
	for _, reg := range s.Banks[o.Bank].Regs {
		if s.Regs[reg].Name == t.Text {
			return reg, api.OK
		}
	}
	return 0, api.ErrName
}

func (s *scope) writeReg(arg, _ int) string { return s.Regs[arg].Name }

func readNumber(o api.MachOperand, t api.LexToken, _ int) (int, api.Errno) {
	if t.Kind != api.TokenNumber {
		return 0, api.ErrForm
	}
	return fitting(o, t.Number)
}

// fitting returns n, or ErrRange if it is not in the field of o.
func fitting(o api.MachOperand, n int) (int, api.Errno) {
	width := 0
	for _, p := range o.Pieces {
		width += p.Len
	}
	if _, e := format.Field(o.Kind, width, o.Scale, n); e != api.OK {
		return 0, e
	}
	return n, api.OK
}

func writeNumber(arg, _ int) string { return strconv.Itoa(arg) }

func (s *scope) readPlace(o api.MachOperand, t api.LexToken, index int) (int, api.Errno) {
	if t.Kind != api.TokenName {
		return readNumber(o, t, index)
	}
	place, known := s.places[t.Text]
	if !known {
		return 0, api.ErrName
	}
	return fitting(o, place-index-1)
}

func (s *scope) writePlace(arg, index int) string {
	if name, known := s.names[index+1+arg]; known {
		return name
	}
	return writeNumber(arg, index)
}

// written returns how the word with this index is written.
func (s *scope) written(word uint64, index int) string {
	op, e := encode.Decode(s.Machine, word)
	if e != api.OK {
		return "@ 0x" + strconv.FormatUint(word, 16)
	}
	instr := s.Instrs[op.Instr]
	var operands []string
	for i, o := range instr.Operands {
		if o.Tied == -1 {
			operands = append(operands, s.forms[o.Kind].write(op.Args[i], index))
		}
	}
	if len(operands) == 0 {
		return instr.Name
	}
	return instr.Name + " " + strings.Join(operands, ", ")
}
