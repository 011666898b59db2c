package describe

import "retarget/api"

// What the forms add when the line has an error does not matter: then there is no machine.

func (r *reader) readHead() {
	r.Name = take(r, name)
	r.Word = after(r, "word", number)
	r.Address = after(r, "address", number)
}

func (r *reader) readReg() {
	x := api.MachReg{Name: take(r, name), Width: take(r, number), Of: -1}
	if r.more() {
		x.Of = after(r, "in", r.ofReg)
		x.Low = after(r, "at", number)
	}
	r.Regs = append(r.Regs, x)
}

func (r *reader) readBank() {
	b := api.MachBank{Name: take(r, name)}
	r.pass(":")
	for r.more() {
		b.Regs = append(b.Regs, take(r, r.ofReg))
	}
	r.Banks = append(r.Banks, b)
}

func (r *reader) readUnit() {
	r.Units = append(r.Units, api.MachUnit{Name: take(r, name), Count: take(r, number)})
}

func (r *reader) readInstr() {
	i := api.MachInstr{Name: take(r, name)}
	i.Mask = after(r, "mask", natural)
	i.Match = after(r, "match", natural)
	i.Unit = after(r, "unit", r.ofUnit)
	i.Busy = after(r, "busy", number)
	i.Latency = after(r, "latency", number)
	i.Slots = after(r, "slots", number)
	r.Instrs = append(r.Instrs, i)
}

func (r *reader) readOperand() {
	o := api.MachOperand{Name: take(r, name), Tied: -1}
	switch take(r, oneOf("reg", "tied", "signed", "unsigned", "jump")) {
	case "reg":
		o.Kind, o.Bank = api.OperandReg, take(r, r.ofBank)
		o.Pieces = r.pieces()
	case "tied":
		o.Kind, o.Tied = api.OperandReg, take(r, r.ofOperand)
		if r.found == api.OK {
			o.Bank = r.last().Operands[o.Tied].Bank
		}
	case "signed":
		r.readNumber(&o, api.OperandSigned)
	case "unsigned":
		r.readNumber(&o, api.OperandUnsigned)
	case "jump":
		r.readNumber(&o, api.OperandJump)
	}
	r.last().Operands = append(r.last().Operands, o)
}

func (r *reader) readNumber(o *api.MachOperand, kind uint8) {
	o.Kind = kind
	o.Scale = after(r, "scale", number)
	o.Pieces = r.pieces()
}

// pieces takes all that is left of the line.
func (r *reader) pieces() []api.MachPiece {
	var l []api.MachPiece
	for r.more() {
		l = append(l, api.MachPiece{At: after(r, "at", number), Len: after(r, "len", number)})
	}
	return l
}

func (r *reader) add(f api.MachEffect) {
	r.last().Effects = append(r.last().Effects, f)
}

func (r *reader) readSet() {
	r.add(api.MachEffect{Kind: api.EffectReg, Operand: take(r, r.ofOperand), Value: take(r, value)})
}

func (r *reader) readFix() {
	r.add(api.MachEffect{Kind: api.EffectReg, Operand: -1, Reg: take(r, r.ofReg), Value: take(r, value)})
}

func (r *reader) readStore() {
	r.add(api.MachEffect{Kind: api.EffectStore, Addr: take(r, value), Value: take(r, value)})
}

func (r *reader) readGoto() {
	f := api.MachEffect{Kind: api.EffectJump, Value: take(r, value)}
	if r.more() {
		f.Cond = after(r, "if", value)
	}
	r.add(f)
}

func (r *reader) readTrap() {
	r.add(api.MachEffect{Kind: api.EffectTrap, Value: take(r, value)})
}
