package state_test

import (
	"bytes"
	"maps"
	"math"
	"math/rand/v2"
	"slices"
	"strconv"
	"testing"

	"retarget/api"
	"retarget/machine"
	"retarget/state"
)

// must returns a value that comes without an error.
func must[T any](x T, e api.Errno) T {
	if e != api.OK {
		panic(e)
	}
	return x
}

// extremes are numbers that are no index of any list, no width and no length.
var extremes = []int{-1, -2, -8, -64, 65, 4097, math.MinInt, math.MaxInt, math.MinInt32, math.MaxInt32, 1 << 32, -1 << 32, 1<<32 + 8, math.MinInt + 8, math.MaxInt - 7}

// Indices of the registers of the machine mixed.
const (
	regLow = iota
	regA
	regFlag
	regMid
	regW
	regTop
	regOdd
	regHigh
)

// mixed is a machine with parts before and behind their roots, roots of odd widths, and addresses of 16 bits.
func mixed() api.Machine {
	return api.Machine{
		Name: "mixed", Word: 3, Address: 16,
		Regs:  []api.MachReg{{Name: "low", Width: 16, Of: regA}, {Name: "a", Width: 32, Of: -1}, {Name: "f", Width: 1, Of: -1}, {Name: "mid", Width: 16, Of: regA, Low: 12}, {Name: "w", Width: 64, Of: -1}, {Name: "top", Width: 1, Of: regW, Low: 63}, {Name: "odd", Width: 33, Of: -1}, {Name: "high", Width: 16, Of: regA, Low: 16}},
		Units: []api.MachUnit{{Name: "u", Count: 1}},
	}
}

// broad is the same with addresses of 32 bits.
func broad() api.Machine {
	m := mixed()
	m.Address = 32
	return m
}

// machines returns valid machines.
func machines() []api.Machine {
	return []api.Machine{api.Given(0), api.Given(1), api.Given(2), mixed(), broad()}
}

// broken returns machines that are not valid, or not within the limits, with their errors.
func broken() map[api.Errno][]api.Machine {
	noUnit, wrongTerm, wide, partOfPart, many := mixed(), api.Given(0), mixed(), mixed(), mixed()
	noUnit.Units, wide.Address = nil, 64
	wrongTerm.Instrs[3].Effects[0].Value.Width++
	partOfPart.Regs[regMid].Of = regLow
	many.Regs = make([]api.MachReg, api.MaxRegs+1)
	return map[api.Errno][]api.Machine{api.ErrBad: {{}, noUnit, wrongTerm, wide, partOfPart}, api.ErrMany: {many}}
}

// limit returns 2^Address.
func limit(m api.Machine) uint64 {
	if m.Address == 16 {
		return 65536
	}
	return 4294967296
}

// next returns the address after another one.
func next(m api.Machine, at uint64) uint64 {
	if at == limit(m)-1 {
		return 0
	}
	return at + 1
}

// away returns the address so many bytes after another one, or before it.
func away(m api.Machine, at uint64, many int) uint64 {
	for range many {
		at = next(m, at)
	}
	if many < 0 {
		at = (at + limit(m) - uint64(-many)) % limit(m)
	}
	return at
}

// rootsOf returns the registers that are not parts of others.
func rootsOf(m api.Machine) []api.MachReg {
	return slices.DeleteFunc(slices.Clone(m.Regs), func(r api.MachReg) bool { return r.Of != -1 })
}

// bitAt returns where a bit of a register is: in which one of the roots, and which bit of it.
func bitAt(m api.Machine, reg, bit int) (root, at int) {
	r := m.Regs[reg]
	name := r.Name
	if r.Of != -1 {
		name = m.Regs[r.Of].Name
	}
	return slices.IndexFunc(rootsOf(m), func(r api.MachReg) bool { return r.Name == name }), r.Low + bit
}

// valueOf is the chapter's definition of the value of a register, bit by bit.
func valueOf(m api.Machine, s api.MachState, reg int) uint64 {
	var x uint64
	for bit := range m.Regs[reg].Width {
		root, at := bitAt(m, reg, bit)
		x += s.Regs[root] >> at % 2 << bit
	}
	return x
}

// withValue is a state after the bits of a register became x, bit by bit.
func withValue(m api.Machine, s api.MachState, reg int, x uint64) api.MachState {
	s = copyOf(s)
	for bit := range m.Regs[reg].Width {
		root, at := bitAt(m, reg, bit)
		if s.Regs[root]>>at%2 != x>>bit%2 {
			s.Regs[root] ^= 1 << at
		}
	}
	return s
}

// byteAt is the chapter's definition of the byte at an address.
func byteAt(s api.MachState, at uint64) byte {
	for _, c := range s.Mem {
		if c.At == at {
			return c.Byte
		}
	}
	return 0
}

// bytesAt returns n bytes from an address on.
func bytesAt(m api.Machine, s api.MachState, at uint64, n int) []byte {
	var b []byte
	for range n {
		b = append(b, byteAt(s, at))
		at = next(m, at)
	}
	return b
}

// withBytes is a state after bytes were stored, one after the other.
func withBytes(m api.Machine, s api.MachState, at uint64, b []byte) api.MachState {
	whole := map[uint64]byte{}
	for _, c := range s.Mem {
		whole[c.At] = c.Byte
	}
	for _, x := range b {
		whole[at] = x
		at = next(m, at)
	}
	s = copyOf(s)
	s.Mem = nil
	for _, at := range slices.Sorted(maps.Keys(whole)) {
		if whole[at] > 0 {
			s.Mem = append(s.Mem, api.Cell{At: at, Byte: whole[at]})
		}
	}
	return s
}

// numberOf returns the number that bytes are, the first one of which is the least significant.
func numberOf(b []byte) uint64 {
	var x uint64
	for _, d := range slices.Backward(b) {
		x = 256*x + uint64(d)
	}
	return x
}

// bytesOf returns so many bytes of a number.
func bytesOf(x uint64, many int) []byte {
	var b []byte
	for range many {
		b = append(b, byte(x%256))
		x /= 256
	}
	return b
}

// copyOf copies a state without package state.
func copyOf(s api.MachState) api.MachState {
	return api.MachState{Regs: append([]uint64{}, s.Regs...), Mem: append([]api.Cell{}, s.Mem...), Pc: s.Pc, Cycles: s.Cycles}
}

// equal reports whether two states are identical, without package state.
func equal(a, b api.MachState) bool {
	return slices.Equal(a.Regs, b.Regs) && slices.Equal(a.Mem, b.Mem) && a.Pc == b.Pc && a.Cycles == b.Cycles
}

// cells returns the cells at, byte, at, byte and so on.
func cells(l ...uint64) []api.Cell {
	var mem []api.Cell
	for i := 0; i < len(l); i += 2 {
		mem = append(mem, api.Cell{At: l[i], Byte: byte(l[i+1])})
	}
	return mem
}

// row returns so many cells with the byte 1, at addresses that are step apart.
func row(at, step uint64, many int) []api.Cell {
	var mem []api.Cell
	for i := range uint64(many) {
		mem = append(mem, api.Cell{At: at + i*step, Byte: 1})
	}
	return mem
}

// gives fails unless a call returned this state and no error.
func gives(t *testing.T, what string, s api.MachState, e api.Errno, want api.MachState) {
	t.Helper()
	if e != api.OK || !equal(s, want) {
		t.Errorf("%s: %v %v, not %v", what, s, e, want)
	}
}

// refuses fails unless a call returned this error and no state.
func refuses(t *testing.T, what string, s api.MachState, e, want api.Errno) {
	t.Helper()
	if e != want || !equal(s, api.MachState{}) {
		t.Errorf("%s: %v %v, not %v", what, s, e, want)
	}
}

// reads fails unless a register has a value.
func reads(t *testing.T, m api.Machine, s api.MachState, reg int, want uint64) {
	t.Helper()
	if x, e := state.Reg(m, s, reg); x != want || e != api.OK {
		t.Errorf("%s %v, the register %d: %x %v, not %x", m.Name, s, reg, x, e, want)
	}
}

// loads fails unless a number is loaded.
func loads(t *testing.T, m api.Machine, s api.MachState, at uint64, width int, want uint64) {
	t.Helper()
	if x, e := state.Load(m, s, at, width); x != want || e != api.OK {
		t.Errorf("%s %v, load %d bits from %x: %x %v, not %x", m.Name, s, width, at, x, e, want)
	}
}

// gets fails unless these are the bytes from an address on.
func gets(t *testing.T, m api.Machine, s api.MachState, at uint64, want []byte) {
	t.Helper()
	if b, e := state.Get(m, s, at, len(want)); !bytes.Equal(b, want) || e != api.OK {
		t.Errorf("%s %v, get %d bytes from %x: %v %v, not %v", m.Name, s, len(want), at, b, e, want)
	}
}

// stores fails unless this state is what a store makes of s.
func stores(t *testing.T, m api.Machine, s api.MachState, at uint64, width int, x uint64, want api.MachState) {
	t.Helper()
	got, e := state.Store(m, s, at, width, x)
	gives(t, m.Name+" store at "+hex(at)+" "+strconv.Itoa(width)+" bits of "+hex(x), got, e, want)
}

// puts fails unless this state is what bytes make of s.
func puts(t *testing.T, m api.Machine, s api.MachState, at uint64, b []byte, want api.MachState) {
	t.Helper()
	got, e := state.Put(m, s, at, b)
	gives(t, m.Name+" put at "+hex(at)+" "+strconv.Itoa(len(b))+" bytes", got, e, want)
}

// sets fails unless this state is what setting a register makes of s.
func sets(t *testing.T, m api.Machine, s api.MachState, reg int, x uint64, want api.MachState) {
	t.Helper()
	got, e := state.SetReg(m, s, reg, x)
	gives(t, m.Name+" set the register "+strconv.Itoa(reg)+" to "+hex(x), got, e, want)
}

func hex(x uint64) string { return strconv.FormatUint(x, 16) }

// noNumber fails unless Load and Store return this error.
func noNumber(t *testing.T, m api.Machine, s api.MachState, at uint64, width int, x uint64, want api.Errno) {
	t.Helper()
	if x, e := state.Load(m, s, at, width); x != 0 || e != want {
		t.Errorf("%s: load %d bits from %x: %x %v, not %v", m.Name, width, at, x, e, want)
	}
	noStore(t, m, s, at, width, x, want)
}

// noStore fails unless Store returns this error.
func noStore(t *testing.T, m api.Machine, s api.MachState, at uint64, width int, x uint64, want api.Errno) {
	t.Helper()
	got, e := state.Store(m, s, at, width, x)
	refuses(t, m.Name+" store at "+hex(at)+" "+strconv.Itoa(width)+" bits of "+hex(x), got, e, want)
}

// noPut fails unless Put returns this error.
func noPut(t *testing.T, m api.Machine, s api.MachState, at uint64, b []byte, want api.Errno) {
	t.Helper()
	got, e := state.Put(m, s, at, b)
	refuses(t, m.Name+" put at "+hex(at)+" "+strconv.Itoa(len(b))+" bytes", got, e, want)
}

// noGet fails unless Get returns this error.
func noGet(t *testing.T, m api.Machine, s api.MachState, at uint64, n int, want api.Errno) {
	t.Helper()
	if b, e := state.Get(m, s, at, n); len(b) > 0 || e != want {
		t.Errorf("%s: get %d bytes from %x: %v %v, not %v", m.Name, n, at, b, e, want)
	}
}

// noReg fails unless Reg and SetReg return this error.
func noReg(t *testing.T, m api.Machine, s api.MachState, reg int, x uint64, want api.Errno) {
	t.Helper()
	if x, e := state.Reg(m, s, reg); x != 0 || e != want {
		t.Errorf("%s: the register %d: %x %v, not %v", m.Name, reg, x, e, want)
	}
	noSet(t, m, s, reg, x, want)
}

// noSet fails unless SetReg returns this error.
func noSet(t *testing.T, m api.Machine, s api.MachState, reg int, x uint64, want api.Errno) {
	t.Helper()
	got, e := state.SetReg(m, s, reg, x)
	refuses(t, m.Name+" set the register "+strconv.Itoa(reg)+" to "+hex(x), got, e, want)
}

// refusesAll fails unless all functions return this error for a machine and a state, whatever the other arguments are.
func refusesAll(t *testing.T, m api.Machine, s api.MachState, want api.Errno) {
	t.Helper()
	if e := state.Check(m, s); e != want {
		t.Errorf("%s %v: %v, not %v", m.Name, s, e, want)
	}
	for _, reg := range append([]int{0, 1}, extremes...) {
		noReg(t, m, s, reg, 0, want)
		noReg(t, m, s, reg, math.MaxUint64, want)
	}
	for _, at := range []uint64{0, 1, 65535, 65536, 1<<32 - 1, 1 << 32, math.MaxUint64} {
		for _, n := range append([]int{0, 7, 8, 64, api.MaxCells}, extremes...) {
			noNumber(t, m, s, at, n, 0, want)
			noNumber(t, m, s, at, n, math.MaxUint64, want)
			noGet(t, m, s, at, n, want)
		}
		for _, n := range []int{0, 1, api.MaxCells, api.MaxCells + 1} {
			noPut(t, m, s, at, bytes.Repeat([]byte{1}, n), want)
		}
	}
}

// A maker makes machines, states and numbers by chance, always the same ones.
type maker struct{ *rand.Rand }

func newMaker(seed uint64) maker { return maker{rand.New(rand.NewPCG(seed, 14))} }

func pick[T any](r maker, l []T) T { return l[r.IntN(len(l))] }

// bits returns a value of a width, often one at a bound.
func (r maker) bits(width int) uint64 {
	x := r.Uint64()
	if r.IntN(3) == 0 {
		x = uint64(r.IntN(4)) - 2
	}
	return x >> (64 - width)
}

// machine returns a valid machine with up to four roots and parts of them, in any order.
func (r maker) machine() api.Machine {
	m := mixed()
	m.Name, m.Address, m.Regs = "chance", pick(r, []int{16, 32}), nil
	for range 1 + r.IntN(4) {
		m.Regs = append(m.Regs, api.MachReg{Width: pick(r, []int{1, 64, 1 + r.IntN(64)}), Of: -1})
	}
	for root := range m.Regs {
		for range r.IntN(4) {
			if wide := m.Regs[root].Width; wide > 1 {
				width := 1 + r.IntN(wide-1)
				m.Regs = append(m.Regs, api.MachReg{Width: width, Of: root, Low: r.IntN(wide - width + 1)})
			}
		}
	}
	places := r.Perm(len(m.Regs))
	regs := make([]api.MachReg, len(m.Regs))
	for i, x := range m.Regs {
		x.Name = "r" + strconv.Itoa(i)
		if x.Of >= 0 {
			x.Of = places[x.Of]
		}
		regs[places[i]] = x
	}
	m.Regs = regs
	if e := machine.Check(m); e != api.OK {
		panic(e)
	}
	return m
}

// at returns an address, mostly one of a few near 0.
func (r maker) at(m api.Machine) uint64 {
	if r.IntN(10) == 0 {
		return r.Uint64N(limit(m))
	}
	return away(m, 0, r.IntN(40)-20)
}

// state returns a valid state of m with up to so many cells.
func (r maker) state(m api.Machine, most int) api.MachState {
	s := api.MachState{Pc: pick(r, []uint64{0, limit(m) - 1, r.Uint64N(limit(m))}), Cycles: pick(r, []int{0, 1, api.MaxCycles, r.IntN(api.MaxCycles)})}
	for _, root := range rootsOf(m) {
		s.Regs = append(s.Regs, r.bits(root.Width))
	}
	for range r.IntN(most + 1) {
		s = withBytes(m, s, r.at(m), []byte{byte(1 + r.IntN(255))})
	}
	return s
}

// bytes returns up to so many bytes, many of them 0.
func (r maker) bytes(most int) []byte {
	b := make([]byte, r.IntN(most+1))
	for i := range b {
		if r.IntN(3) > 0 {
			b[i] = byte(r.IntN(256))
		}
	}
	return b
}

// number returns a width and a number of this width, of which many bytes are 0.
func (r maker) number() (int, uint64) {
	width := pick(r, []int{8, 16, 32, 64})
	if r.IntN(4) == 0 {
		return width, r.bits(width)
	}
	return width, numberOf(r.bytes(width / 8))
}
