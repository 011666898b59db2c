package term

import (
	"cmp"
	"slices"
	"strings"

	"retarget/api"
	"retarget/bits"
)

// CheckCells returns ErrBad if mem is not valid.
func CheckCells(mem []api.Cell) api.Errno {
	if len(mem) > api.MaxCells {
		return api.ErrBad
	}
	for i, c := range mem {
		if c.Byte == 0 || i > 0 && mem[i-1].At >= c.At {
			return api.ErrBad
		}
	}
	return api.OK
}

// CheckBound returns ErrBad if env is not valid.
func CheckBound(env []api.Binding) api.Errno {
	if len(env) > api.MaxBound {
		return api.ErrBad
	}
	for i, b := range env {
		if !isVariable(b.Name) || !bits.Ok(b.Width, b.Bits) || i > 0 && env[i-1].Name >= b.Name {
			return api.ErrBad
		}
	}
	return api.OK
}

// Load returns the bits of this width that are loaded from an address, which has a width itself.
func Load(mem []api.Cell, address int, at uint64, width int) (uint64, api.Errno) {
	if e := CheckCells(mem); e != api.OK {
		return 0, e
	}
	if !isWidth(address) || !isLoaded(width) {
		return 0, api.ErrWidth
	}
	if !bits.Ok(address, at) {
		return 0, api.ErrBad
	}
	return loaded(mem, address, at, width), api.OK
}

func loaded(mem []api.Cell, address int, at uint64, width int) uint64 {
	var x uint64
	for i := range uint64(width / 8) {
		x |= uint64(byteAt(mem, (at+i)&bits.Mask(address))) << (8 * i)
	}
	return x
}

func byteAt(mem []api.Cell, at uint64) uint8 {
	i, there := slices.BinarySearchFunc(mem, at, func(c api.Cell, at uint64) int { return cmp.Compare(c.At, at) })
	if !there {
		return 0
	}
	return mem[i].Byte
}

// Value returns the value of t with these bindings and this memory.
func Value(t api.Term, env []api.Binding, mem []api.Cell) (uint64, api.Errno) {
	vars, e := Vars(t)
	if e == api.OK {
		e = CheckBound(env)
	}
	if e == api.OK {
		e = CheckCells(mem)
	}
	if e != api.OK {
		return 0, e
	}
	s := scene{map[string]uint64{}, mem}
	for _, v := range vars {
		i, there := slices.BinarySearchFunc(env, v.Name, func(b api.Binding, name string) int { return strings.Compare(b.Name, name) })
		if !there {
			return 0, api.ErrName
		}
		if env[i].Width != v.Width {
			return 0, api.ErrWidth
		}
		s.vars[v.Name] = env[i].Bits
	}
	return s.value(t), api.OK
}

// A scene is what the value of a term depends on: the values of its variables, and memory.
type scene struct {
	vars map[string]uint64
	mem  []api.Cell
}

// value returns the value of a valid term; so the operations of layer 1 have no errors.
func (s scene) value(t api.Term) uint64 {
	var of [3]uint64
	var wide [3]int
	for i, part := range t.Sub {
		of[i], wide[i] = s.value(part), part.Width
	}
	v := t.Bits
	switch t.Kind {
	case api.TermConst:
	case api.TermVar:
		v = s.vars[t.Name]
	case api.TermNot, api.TermNeg:
		v, _ = bits.Unary(t.Kind, wide[0], of[0])
	case api.TermIte:
		v = of[2]
		if of[0] == 1 {
			v = of[1]
		}
	case api.TermConcat:
		v, _ = bits.Concat(wide[0], of[0], wide[1], of[1])
	case api.TermExtract:
		v, _ = bits.Extract(wide[0], of[0], t.Low, t.Width)
	case api.TermZext, api.TermSext:
		v, _ = bits.Extend(wide[0], of[0], t.Width, t.Kind == api.TermSext)
	case api.TermLoad:
		v = loaded(s.mem, wide[0], of[0], t.Width)
	default:
		v, _ = bits.Binary(t.Kind, wide[0], of[0], of[1])
	}
	return v
}
