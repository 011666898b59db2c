package machine_test

import (
	"fmt"
	"math"
	"math/rand/v2"
	"reflect"
	"slices"
	"strconv"
	"strings"
	"testing"

	"retarget/api"
	"retarget/term"
)

// parse returns the term with a text.
func parse(s string) api.Term {
	t, e := term.Parse(s)
	if e != api.OK {
		panic(s)
	}
	return t
}

// must returns a value that comes without an error.
func must[T any](x T, e api.Errno) T {
	if e != api.OK {
		panic(e)
	}
	return x
}

// field returns an operand with the pieces At, Len, At, Len and so on.
func field(name string, kind uint8, bank, scale int, places ...int) api.MachOperand {
	o := api.MachOperand{Name: name, Kind: kind, Bank: bank, Scale: scale, Tied: -1}
	for i := 0; i < len(places); i += 2 {
		o.Pieces = append(o.Pieces, api.MachPiece{At: places[i], Len: places[i+1]})
	}
	return o
}

func tied(name string, bank, to int) api.MachOperand {
	return api.MachOperand{Name: name, Kind: api.OperandReg, Bank: bank, Tied: to}
}

func set(operand int, value string) api.MachEffect {
	return api.MachEffect{Kind: api.EffectReg, Operand: operand, Value: parse(value)}
}

func fix(reg int, value string) api.MachEffect {
	return api.MachEffect{Kind: api.EffectReg, Operand: -1, Reg: reg, Value: parse(value)}
}

func store(addr, value string) api.MachEffect {
	return api.MachEffect{Kind: api.EffectStore, Addr: parse(addr), Value: parse(value)}
}

func jump(to string) api.MachEffect {
	return api.MachEffect{Kind: api.EffectJump, Value: parse(to)}
}

func jumpIf(to, cond string) api.MachEffect {
	return api.MachEffect{Kind: api.EffectJump, Value: parse(to), Cond: parse(cond)}
}

func trap(value string) api.MachEffect {
	return api.MachEffect{Kind: api.EffectTrap, Value: parse(value)}
}

func instr(name string, match uint64, operands []api.MachOperand, effects ...api.MachEffect) api.MachInstr {
	return api.MachInstr{Name: name, Mask: 0xe00000, Match: match << 21, Operands: operands, Effects: effects, Busy: 1, Latency: 1}
}

// Indices of the registers of the machine sample.
const (
	regLow = iota
	regA
	regFlag
	regHigh
	regMid
	regP
	regW
	regTop
)

// sample is a valid machine with words of three bytes, parts before and behind their roots, and all kinds of operands and effects.
func sample() api.Machine {
	m := api.Machine{
		Name: "sample", Word: 3, Address: 16,
		Regs:  []api.MachReg{{Name: "low", Width: 16, Of: regA}, {Name: "a", Width: 32, Of: -1}, {Name: "f", Width: 1, Of: -1}, {Name: "high", Width: 16, Of: regA, Low: 16}, {Name: "mid", Width: 16, Of: regA, Low: 12}, {Name: "p", Width: 16, Of: -1}, {Name: "w", Width: 64, Of: -1}, {Name: "top", Width: 1, Of: regW, Low: 63}},
		Banks: []api.MachBank{{Name: "half", Regs: []int{regHigh, regP, regLow}}, {Name: "bit", Regs: []int{regTop, regFlag}}},
		Units: []api.MachUnit{{Name: "u", Count: 4}, {Name: "v", Count: 1}},
	}
	d, s := field("d", api.OperandReg, 0, 0, 19, 2), field("s", api.OperandReg, 0, 0, 0, 1, 18, 1)
	n, to := field("n", api.OperandSigned, 0, 1, 8, 4, 2, 1), field("to", api.OperandJump, 0, 0, 1, 12)
	mix := instr("mix", 0, []api.MachOperand{d, tied("c", 0, 0), n, field("u", api.OperandUnsigned, 0, 3, 12, 5)},
		set(1, "(add c:16 n:16)"), fix(regW, "(concat (concat u:16 pc:16) r.a:32)"), store("(add r.p:16 u:16)", "(extract 0 32 r.w:64)"), jumpIf("(add pc:16 (sub n:16 d:16))", "r.f:1"))
	mix.Unit, mix.Busy, mix.Latency, mix.Slots = 1, 15, 15, 2
	far := instr("go", 1, []api.MachOperand{to}, jump("to:16"), fix(regP, "pc:16"))
	far.Slots = 1
	m.Instrs = []api.MachInstr{
		mix, far,
		instr("stop", 2, []api.MachOperand{s}, trap("(concat s:16 1:1)")),
		instr("none", 3, nil),
		instr("load", 4, []api.MachOperand{s, d}, set(1, "(load 16 (add s:16 16:0002))"), fix(regTop, "(eq (load 8 r.p:16) 8:00)")),
		instr("puts", 5, []api.MachOperand{field("x", api.OperandReg, 1, 0, 0, 1)}, store("r.p:16", "r.w:64"), store("pc:16", "(concat r.high:16 r.low:16)"), store("r.mid:16", "r.mid:16"), store("16:ffff", "(zext 8 x:1)")),
	}
	return m
}

// tiny is a valid machine with as little as possible.
func tiny() api.Machine {
	return api.Machine{Name: "t", Word: 1, Address: 16, Regs: []api.MachReg{{Name: "a", Width: 8, Of: -1}}, Units: []api.MachUnit{{Name: "u", Count: 1}}}
}

// machines returns valid machines.
func machines() []api.Machine {
	return []api.Machine{sample(), tiny(), api.Given(0), api.Given(1), api.Given(2)}
}

// broken returns machines that are not valid, or not within the limits, with Check's error.
func broken() map[api.Errno][]api.Machine {
	noUnit, noWord, wrongTerm, many := sample(), sample(), sample(), sample()
	noUnit.Units, noWord.Word = nil, 0
	wrongTerm.Instrs[5].Effects[3].Value.Sub[0].Name = "y"
	many.Regs = make([]api.MachReg, api.MaxRegs+1)
	return map[api.Errno][]api.Machine{api.ErrBad: {{}, noUnit, noWord, wrongTerm}, api.ErrMany: {many}}
}

// copyOf copies a value of any type without package machine, with empty lists as nil.
func copyOf[T any](x T) T { return copied(x, false) }

// wholeOf also copies what stands between the lengths and the capacities of lists.
func wholeOf[T any](x T) T { return copied(x, true) }

func copied[T any](x T, whole bool) T {
	var y T
	copyTo(reflect.ValueOf(&y).Elem(), reflect.ValueOf(x), whole)
	return y
}

func copyTo(to, from reflect.Value, whole bool) {
	switch from.Kind() {
	case reflect.Struct:
		for i := range from.NumField() {
			copyTo(to.Field(i), from.Field(i), whole)
		}
	case reflect.Slice:
		if whole {
			from = from.Slice(0, from.Cap())
		}
		if from.Len() == 0 {
			return
		}
		to.Set(reflect.MakeSlice(from.Type(), from.Len(), from.Len()))
		for i := range from.Len() {
			copyTo(to.Index(i), from.Index(i), whole)
		}
	default:
		to.Set(from)
	}
}

// filled returns a copy of m in which each list has room for more, and something stands there.
func filled(m api.Machine) api.Machine {
	m = copyOf(m)
	for _, s := range slices.Backward(spots(&m)) {
		if s.Kind() == reflect.Slice && s.Len() > 0 {
			n := s.Len()
			more := reflect.AppendSlice(reflect.MakeSlice(s.Type(), 0, n+2), s.Value)
			more = reflect.Append(more, s.Index(n-1), s.Index(0))
			s.Set(more.Slice(0, n))
		}
	}
	return m
}

// A spot is a field or an element of a value, with the way to it.
type spot struct {
	way string
	reflect.Value
}

// spots returns all numbers, strings and lists in a value.
func spots[T any](x *T) []spot {
	var all []spot
	var visit func(way string, v reflect.Value)
	visit = func(way string, v reflect.Value) {
		switch v.Kind() {
		case reflect.Struct:
			for i := range v.NumField() {
				visit(way+"."+v.Type().Field(i).Name, v.Field(i))
			}
		case reflect.Slice:
			all = append(all, spot{way, v})
			for i := range v.Len() {
				visit(way+"."+strconv.Itoa(i), v.Index(i))
			}
		default:
			all = append(all, spot{way, v})
		}
	}
	visit("", reflect.ValueOf(x).Elem())
	return all
}

// others returns values that a spot could have instead of its own.
func (s spot) others() []reflect.Value {
	var all []reflect.Value
	add := func(x any) {
		v := reflect.ValueOf(x).Convert(s.Type())
		if v.Kind() == reflect.Slice || !v.Equal(s.Value) {
			all = append(all, v)
		}
	}
	switch s.Kind() {
	case reflect.Int:
		n := int(s.Int())
		for _, x := range []int{n + 1, n - 1, 0, 1, -1, -2, 2, 7, 8, 9, 16, 17, 32, 33, 63, 64, 65, 1000, -1000, math.MaxInt, math.MaxInt - 1, math.MaxInt - n, math.MinInt, math.MinInt + n} {
			add(x)
		}
	case reflect.Uint64:
		n := s.Uint()
		for _, x := range []uint64{n + 1, n - 1, 0, 1, 1 << 12, 1 << 16, n ^ 1<<21, n ^ 1<<23, n ^ 1<<24, 1 << 63, math.MaxUint64, ^n} {
			add(x)
		}
	case reflect.Uint8:
		for x := range 27 {
			add(uint8(x))
		}
		add(uint8(255))
	case reflect.String:
		for _, x := range []string{"", "9", "_", "a", "p", "pc", "r.pc", "r.p", "r.a", "r.f", "d", "c", "n", "s", "u", "to", "half", "mix", "a b", "r.", "r.9", "Z9_", "é", "a\x00", strings.Repeat("n", 24), strings.Repeat("n", 25), s.String() + "_", s.String() + " "} {
			add(x)
		}
	case reflect.Slice:
		n := s.Len()
		zero := reflect.New(s.Type().Elem()).Elem()
		add(reflect.Append(s.Slice3(0, n, n), zero).Interface())
		add(reflect.Zero(s.Type()).Interface())
		if n > 0 {
			add(s.Slice3(0, n-1, n-1).Interface())
			add(s.Slice(1, n).Interface())
			add(reflect.Append(s.Slice3(0, n, n), s.Index(n-1)).Interface())
			add(reflect.Append(s.Slice3(0, n, n), s.Index(0)).Interface())
		}
	}
	return all
}

// A maker makes values by chance, always the same ones.
type maker struct{ *rand.Rand }

func newMaker(seed uint64) maker { return maker{rand.New(rand.NewPCG(seed, 8))} }

func pick[T any](m maker, l []T) T { return l[m.IntN(len(l))] }

// bits returns a value of a width.
func (m maker) bits(width int) uint64 {
	x := m.Uint64()
	if m.IntN(3) == 0 {
		x = uint64(m.IntN(4)) - 2
	}
	return x >> (64 - width)
}

// registers returns a valid machine with up to this many roots and as many parts, in any order.
func (m maker) registers(most int) api.Machine {
	d := tiny()
	d.Regs = nil
	for range 1 + m.IntN(most) {
		d.Regs = append(d.Regs, api.MachReg{Width: 1 + m.IntN(64), Of: -1})
	}
	for root := range d.Regs {
		for range m.IntN(3) {
			if wide := d.Regs[root].Width; wide > 1 {
				width := 1 + m.IntN(wide-1)
				d.Regs = append(d.Regs, api.MachReg{Width: width, Of: root, Low: m.IntN(wide - width + 1)})
			}
		}
	}
	places := m.Perm(len(d.Regs))
	regs := make([]api.MachReg, len(d.Regs))
	for i, r := range d.Regs {
		r.Name = "r" + strconv.Itoa(i)
		if r.Of >= 0 {
			r.Of = places[r.Of]
		}
		regs[places[i]] = r
	}
	d.Regs = regs
	return d
}

// values returns values of the roots.
func (m maker) values(d api.Machine) []uint64 {
	var l []uint64
	for _, r := range d.Regs {
		if r.Of == -1 {
			l = append(l, m.bits(r.Width))
		}
	}
	return l
}

// op returns an op that often fits, and otherwise nearly does.
func (m maker) op(d api.Machine) api.MachOp {
	if len(d.Instrs) == 0 {
		return api.MachOp{Instr: m.IntN(3) - 1}
	}
	op := api.MachOp{Instr: m.IntN(len(d.Instrs))}
	for _, o := range d.Instrs[op.Instr].Operands {
		switch {
		case o.Tied != -1:
			op.Args = append(op.Args, op.Args[o.Tied])
		case o.Kind == api.OperandReg:
			op.Args = append(op.Args, pick(m, d.Banks[o.Bank].Regs))
		default:
			op.Args = append(op.Args, m.number(o))
		}
	}
	if m.IntN(3) == 0 && len(op.Args) > 0 {
		op.Args[m.IntN(len(op.Args))] += m.IntN(5) - 2
	}
	if m.IntN(10) == 0 {
		op.Args = append(op.Args, 0)[m.IntN(2):]
	}
	if m.IntN(10) == 0 {
		op.Instr += m.IntN(200) - 100
	}
	return op
}

// number returns a number that is in the field of an operand, or beyond its range.
func (m maker) number(o api.MachOperand) int {
	low, high := numbers(o)
	return pick(m, []int{low, high, low - 1<<o.Scale, high + 1<<o.Scale, 0, low + m.IntN(high-low)>>o.Scale<<o.Scale})
}

// numbers returns the least and the greatest number of the field of an operand.
func numbers(o api.MachOperand) (low, high int) {
	many := 1
	for _, p := range o.Pieces {
		for range p.Len {
			many *= 2
		}
	}
	low, high = 0, many-1
	if o.Kind != api.OperandUnsigned {
		low, high = -many/2, many/2-1
	}
	for range o.Scale {
		low, high = low*2, high*2
	}
	return low, high
}

// fails reports that a call with a machine had another result than it should have.
func fails(t *testing.T, d api.Machine, what string, got, want any) {
	t.Helper()
	t.Errorf("%s: %s: %v, not %v", d.Name, what, fmt.Sprint(got), fmt.Sprint(want))
}
