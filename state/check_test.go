package state_test

import (
	"math"
	"reflect"
	"slices"
	"testing"

	"retarget/api"
	"retarget/state"
)

func TestP14_1New(t *testing.T) {
	for i, many := range []int{16, 11, 8, 4, 4} {
		m := machines()[i]
		s, e := state.New(m)
		gives(t, m.Name, s, e, api.MachState{Regs: make([]uint64, many)})
		if e := state.Check(m, s); e != api.OK {
			t.Error(m.Name, e)
		}
	}
	r := newMaker(1)
	for range 200 {
		m := r.machine()
		s, e := state.New(m)
		gives(t, m.Name, s, e, api.MachState{Regs: make([]uint64, len(rootsOf(m)))})
	}
}

// valid is a state of the machine mixed.
func valid() api.MachState {
	return api.MachState{Regs: []uint64{0xfffffffe, 1, math.MaxUint64, 1<<33 - 1}, Mem: cells(0, 1, 7, 255, 65535, 128), Pc: 65535, Cycles: 1 << 40}
}

// checks fails unless Check returns this error; with an error all functions do.
func checks(t *testing.T, m api.Machine, s api.MachState, want api.Errno) {
	t.Helper()
	if want != api.OK {
		refusesAll(t, m, s, want)
	} else if e := state.Check(m, s); e != api.OK {
		t.Errorf("%s %v: %v", m.Name, s, e)
	}
}

func TestP14_1Check(t *testing.T) {
	checks(t, mixed(), valid(), api.OK)
	checks(t, mixed(), api.MachState{Regs: make([]uint64, 4)}, api.OK)
	for _, c := range []struct {
		change func(s *api.MachState)
		want   api.Errno
	}{
		{func(s *api.MachState) { s.Regs = nil }, api.ErrBad},
		{func(s *api.MachState) { s.Regs = s.Regs[:3] }, api.ErrBad},
		{func(s *api.MachState) { s.Regs = append(s.Regs, 0) }, api.ErrBad},
		{func(s *api.MachState) { s.Regs = make([]uint64, 8) }, api.ErrBad},
		{func(s *api.MachState) { s.Regs[0] = 1<<32 - 1 }, api.OK},
		{func(s *api.MachState) { s.Regs[0] = 1 << 32 }, api.ErrBad},
		{func(s *api.MachState) { s.Regs[1] = 2 }, api.ErrBad},
		{func(s *api.MachState) { s.Regs[1] = 1 << 63 }, api.ErrBad},
		{func(s *api.MachState) { s.Regs[3] = 1 << 33 }, api.ErrBad},
		{func(s *api.MachState) { s.Regs[3] = math.MaxUint64 }, api.ErrBad},
		{func(s *api.MachState) { slices.Reverse(s.Regs) }, api.ErrBad},
		{func(s *api.MachState) { s.Mem = nil }, api.OK},
		{func(s *api.MachState) { s.Mem[0].Byte = 0 }, api.ErrBad},
		{func(s *api.MachState) { s.Mem[2].Byte = 0 }, api.ErrBad},
		{func(s *api.MachState) { s.Mem[1].At = 0 }, api.ErrBad},
		{func(s *api.MachState) { s.Mem[1].At = 65535 }, api.ErrBad},
		{func(s *api.MachState) { s.Mem[2].At = 65536 }, api.ErrBad},
		{func(s *api.MachState) { s.Mem[2].At = math.MaxUint64 }, api.ErrBad},
		{func(s *api.MachState) { s.Mem = cells(65536, 1) }, api.ErrBad},
		{func(s *api.MachState) { s.Mem = cells(65536, 1, 5, 1) }, api.ErrBad},
		{func(s *api.MachState) { slices.Reverse(s.Mem) }, api.ErrBad},
		{func(s *api.MachState) { s.Mem = cells(5, 0, 65536, 1) }, api.ErrBad},
		{func(s *api.MachState) { s.Mem = cells(5, 1, 65536, 0) }, api.ErrBad},
		{func(s *api.MachState) { s.Mem = row(61440, 1, api.MaxCells) }, api.OK},
		{func(s *api.MachState) { s.Mem = row(61441, 1, api.MaxCells) }, api.ErrBad},
		{func(s *api.MachState) { s.Mem = row(0, 1, api.MaxCells+1) }, api.ErrBad},
		{func(s *api.MachState) { s.Mem = row(0, 17, api.MaxCells+1) }, api.ErrBad},
		{func(s *api.MachState) { s.Pc = 0 }, api.OK},
		{func(s *api.MachState) { s.Pc = 65536 }, api.ErrBad},
		{func(s *api.MachState) { s.Pc = math.MaxUint64 }, api.ErrBad},
		{func(s *api.MachState) { s.Cycles = 0 }, api.OK},
		{func(s *api.MachState) { s.Cycles = -1 }, api.ErrBad},
		{func(s *api.MachState) { s.Cycles = math.MinInt }, api.ErrBad},
		{func(s *api.MachState) { s.Cycles = 1<<40 + 1 }, api.ErrBad},
		{func(s *api.MachState) { s.Cycles = math.MaxInt }, api.ErrBad},
	} {
		s := valid()
		c.change(&s)
		checks(t, mixed(), s, c.want)
	}
	s := valid()
	s.Pc, s.Mem = 1<<32-1, cells(0, 1, 1<<32-1, 1)
	checks(t, broad(), s, api.OK)
	s.Pc++
	checks(t, broad(), s, api.ErrBad)
	s.Pc, s.Mem[1].At = 0, 1<<32
	checks(t, broad(), s, api.ErrBad)
}

// isValid is the chapter's definition of a valid state.
func isValid(m api.Machine, s api.MachState) bool {
	roots := rootsOf(m)
	ok := len(s.Regs) == len(roots) && len(s.Mem) <= 4096 && s.Pc < limit(m) && 0 <= s.Cycles && s.Cycles <= 1<<40
	for i := 0; ok && i < len(roots); i++ {
		x := s.Regs[i]
		for range roots[i].Width {
			x /= 2
		}
		ok = x == 0
	}
	for i, c := range s.Mem {
		ok = ok && c.Byte > 0 && c.At < limit(m)
		for _, d := range s.Mem[:min(i, 50)] {
			ok = ok && d.At < c.At
		}
	}
	return ok
}

// spoilt returns a state with a change, which may leave it valid.
func (r maker) spoilt(m api.Machine, s api.MachState) api.MachState {
	s = copyOf(s)
	x := pick(r, []uint64{0, 1, 2, 1 << r.IntN(64), math.MaxUint64, limit(m), limit(m) - 1, r.Uint64N(limit(m))})
	switch i := r.IntN(8); {
	case i == 0:
		s.Pc = x
	case i == 1:
		s.Cycles = int(x)
	case i == 2:
		s.Regs = s.Regs[1:]
	case i == 3:
		s.Regs = append(s.Regs, x)
	case i == 4 && len(s.Mem) > 0:
		pick(r, []func(c *api.Cell){func(c *api.Cell) { c.At = x }, func(c *api.Cell) { c.Byte = byte(x) }})(&s.Mem[r.IntN(len(s.Mem))])
	case i == 5 && len(s.Mem) > 1:
		slices.Reverse(s.Mem[r.IntN(len(s.Mem)-1):])
	case i == 6:
		s.Mem = append(s.Mem, api.Cell{At: x, Byte: 1})
	default:
		s.Regs[r.IntN(len(s.Regs))] = x
	}
	return s
}

// TestP14_1Chance holds Check against the definition for states that mostly are nearly valid.
func TestP14_1Chance(t *testing.T) {
	r := newMaker(2)
	met := map[bool]int{}
	for range 400 {
		m := r.machine()
		s := r.state(m, 8)
		checks(t, m, s, api.OK)
		for range 5 {
			x := r.spoilt(m, s)
			met[isValid(m, x)]++
			if e := state.Check(m, x); (e == api.OK) != isValid(m, x) || e != api.OK && e != api.ErrBad {
				t.Fatalf("%v %v: %v", m, x, e)
			}
		}
	}
	if met[true] < 300 || met[false] < 300 {
		t.Error(met)
	}
}

// TestP14_1Machine has states of another machine.
func TestP14_1Machine(t *testing.T) {
	r := newMaker(3)
	for i, m := range machines() {
		for k, other := range machines() {
			s := r.state(m, 5)
			for i := range s.Regs {
				s.Regs[i] |= 1 & (1 << (rootsOf(m)[i].Width - 1))
			}
			if i != k && isValid(other, s) != (state.Check(other, s) == api.OK) {
				t.Errorf("%s %s: %v", m.Name, other.Name, s)
			}
		}
	}
}

// TestP14Machine has machines that are not valid: their error comes before all others.
func TestP14Machine(t *testing.T) {
	for want, l := range broken() {
		for _, m := range l {
			s, e := state.New(m)
			refuses(t, "new", s, e, want)
			for _, s := range []api.MachState{valid(), {}, {Regs: make([]uint64, len(m.Regs))}, {Cycles: -1, Pc: math.MaxUint64, Mem: cells(1, 0)}} {
				refusesAll(t, m, s, want)
			}
		}
	}
}

// same fails unless Same has this answer for two states, in both orders.
func same(t *testing.T, a, b api.MachState, want bool) {
	t.Helper()
	if state.Same(a, b) != want || state.Same(b, a) != want {
		t.Errorf("%v and %v: not %v", a, b, want)
	}
}

// strange are states that are valid for no machine.
func strange() []api.MachState {
	return []api.MachState{
		{Cycles: math.MinInt}, {Cycles: math.MaxInt}, {Pc: math.MaxUint64}, {Regs: []uint64{math.MaxUint64}},
		{Mem: cells(3, 0)}, {Mem: cells(3, 0, 3, 0)}, {Mem: cells(3, 1, 2, 1)}, {Mem: cells(2, 1, 3, 1)}, {Regs: make([]uint64, 2000)},
		{Mem: row(math.MaxUint64-5, 1, 5000)}, {Regs: []uint64{0, 1}, Mem: cells(0, 0), Pc: 5, Cycles: -5}, {Regs: []uint64{0}},
	}
}

func TestP14_1Same(t *testing.T) {
	all := append(strange(), valid(), api.MachState{})
	for i, a := range all {
		for k, b := range all {
			same(t, a, copyOf(b), i == k)
		}
	}
	for _, change := range []func(s *api.MachState){
		func(s *api.MachState) { s.Regs[0]-- }, func(s *api.MachState) { s.Regs[3]-- }, func(s *api.MachState) { s.Regs = s.Regs[:3] },
		func(s *api.MachState) { s.Regs = append(s.Regs, 0) }, func(s *api.MachState) { slices.Reverse(s.Regs) }, func(s *api.MachState) { s.Regs = nil },
		func(s *api.MachState) { s.Mem[0].At++ }, func(s *api.MachState) { s.Mem[2].Byte++ }, func(s *api.MachState) { s.Mem = s.Mem[1:] },
		func(s *api.MachState) { s.Mem = append(s.Mem, api.Cell{}) }, func(s *api.MachState) { slices.Reverse(s.Mem) }, func(s *api.MachState) { s.Mem = nil },
		func(s *api.MachState) { s.Pc-- }, func(s *api.MachState) { s.Pc = 0 }, func(s *api.MachState) { s.Cycles-- }, func(s *api.MachState) { s.Cycles = -s.Cycles },
	} {
		s := valid()
		change(&s)
		same(t, s, valid(), false)
		same(t, s, copyOf(s), true)
	}
	same(t, api.MachState{}, api.MachState{Regs: []uint64{}, Mem: []api.Cell{}}, true)
	same(t, api.MachState{Mem: cells(1, 1)}, api.MachState{Regs: []uint64{}, Mem: cells(1, 1)}, true)
}

// TestP14_1Twin also spoils copies, which changes nothing else.
func TestP14_1Twin(t *testing.T) {
	for _, s := range append(strange(), valid(), filled(valid()), api.MachState{}, api.MachState{Regs: []uint64{}, Mem: []api.Cell{}}) {
		kept := wholeOf(s)
		twin := state.Twin(s)
		if !equal(twin, s) {
			t.Fatalf("the twin of %v: %v", s, twin)
		}
		spoil(twin)
		if !reflect.DeepEqual(wholeOf(s), kept) {
			t.Fatalf("the twin of %v shares memory", s)
		}
	}
}
