package state

import (
	"cmp"
	"slices"

	"retarget/api"
	"retarget/bits"
	"retarget/term"
)

// Load returns the number of this width whose bytes are those from the address at on.
func Load(m api.Machine, s api.MachState, at uint64, width int) (uint64, api.Errno) {
	if e := checkNumber(m, s, at, width); e != api.OK {
		return 0, e
	}
	return term.Load(s.Mem, m.Address, at, width)
}

// Store returns the state after the bytes of a number of this width were stored from the address at on.
func Store(m api.Machine, s api.MachState, at uint64, width int, x uint64) (api.MachState, api.Errno) {
	if e := checkNumber(m, s, at, width); e != api.OK {
		return api.MachState{}, e
	}
	if !bits.Ok(width, x) {
		return api.MachState{}, api.ErrRange
	}
	var b []byte
	for i := range width / 8 {
		b = append(b, byte(x>>(8*i)))
	}
	return stored(m, s, at, b)
}

// checkNumber returns Check's error, then ErrWidth unless a number of this width has bytes, and then ErrArg unless at is an address.
func checkNumber(m api.Machine, s api.MachState, at uint64, width int) api.Errno {
	if e := Check(m, s); e != api.OK {
		return e
	}
	if width != 8 && width != 16 && width != 32 && width != 64 {
		return api.ErrWidth
	}
	if !isAddress(m, at) {
		return api.ErrArg
	}
	return api.OK
}

// Put returns the state after the bytes b were stored from the address at on.
func Put(m api.Machine, s api.MachState, at uint64, b []byte) (api.MachState, api.Errno) {
	if e := Check(m, s); e != api.OK {
		return api.MachState{}, e
	}
	if len(b) > api.MaxCells {
		return api.MachState{}, api.ErrMany
	}
	if !isAddress(m, at) {
		return api.MachState{}, api.ErrArg
	}
	return stored(m, s, at, b)
}

// Get returns the n bytes from the address at on.
func Get(m api.Machine, s api.MachState, at uint64, n int) ([]byte, api.Errno) {
	if e := Check(m, s); e != api.OK {
		return nil, e
	}
	if n < 0 || n > api.MaxCells || !isAddress(m, at) {
		return nil, api.ErrArg
	}
	b := make([]byte, n)
	for _, c := range s.Mem {
		// The distance from at is the place, also of a cell behind the last address.
		if i := wrapped(m, c.At-at); i < uint64(n) {
			b[i] = c.Byte
		}
	}
	return b, api.OK
}

// wrapped returns x modulo the number of addresses of m.
func wrapped(m api.Machine, x uint64) uint64 { return x & bits.Mask(m.Address) }

// stored returns a valid state after at most MaxCells bytes were stored from an address on, or ErrFull.
func stored(m api.Machine, s api.MachState, at uint64, b []byte) (api.MachState, api.Errno) {
	t := make(table, len(b))
	for i, x := range b {
		t[wrapped(m, at+uint64(i))] = x
	}
	mem := t.movedInto(s.Mem)
	if len(mem) > api.MaxCells {
		return api.MachState{}, api.ErrFull
	}
	s.Regs, s.Mem = slices.Clone(s.Regs), mem
	return s, api.OK
}

// A table has bytes by their addresses. It has only those that are to be stored, because memory is mostly much larger.
type table map[uint64]byte

// movedInto returns memory after the bytes of t were stored in it. Those that took the place of others are no longer in t.
func (t table) movedInto(mem []api.Cell) []api.Cell {
	cells := make([]api.Cell, 0, len(mem)+len(t))
	for _, c := range mem {
		if x, there := t[c.At]; there {
			c.Byte = x
			delete(t, c.At)
		}
		cells = append(cells, c)
	}
	for at, x := range t {
		cells = append(cells, api.Cell{At: at, Byte: x})
	}
	cells = slices.DeleteFunc(cells, func(c api.Cell) bool { return c.Byte == 0 })
	slices.SortFunc(cells, func(a, b api.Cell) int { return cmp.Compare(a.At, b.At) })
	return cells
}
