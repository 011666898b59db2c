package state_test

import (
	"bytes"
	"math"
	"reflect"
	"slices"
	"testing"

	"retarget/api"
	"retarget/machine"
	"retarget/state"
)

// TestP14_5Regs has laws of registers.
func TestP14_5Regs(t *testing.T) {
	r := newMaker(8)
	for range 400 {
		m := r.machine()
		s := r.state(m, 5)
		a, b := r.IntN(len(m.Regs)), r.IntN(len(m.Regs))
		x := r.bits(m.Regs[a].Width)
		after := must(state.SetReg(m, s, a, x))
		reads(t, m, after, a, x)
		sets(t, m, s, a, must(state.Reg(m, s, a)), s)
		sets(t, m, after, a, must(state.Reg(m, s, a)), s)
		if !must(machine.Overlap(m, a, b)) {
			reads(t, m, after, b, must(state.Reg(m, s, b)))
			y := r.bits(m.Regs[b].Width)
			sets(t, m, after, b, y, must(state.SetReg(m, must(state.SetReg(m, s, b, y)), a, x)))
		}
		if !slices.Equal(after.Mem, s.Mem) || after.Pc != s.Pc || after.Cycles != s.Cycles || state.Check(m, after) != api.OK {
			t.Errorf("%v: %v", s, after)
		}
		width, z := r.number()
		at := r.at(m)
		stored := must(state.Store(m, s, at, width, z))
		for reg := range m.Regs {
			reads(t, m, stored, reg, must(state.Reg(m, s, reg)))
		}
		sets(t, m, stored, a, x, must(state.Store(m, after, at, width, z)))
	}
}

// TestP14_5Store has laws of loads and stores.
func TestP14_5Store(t *testing.T) {
	r := newMaker(9)
	for range 600 {
		m := pick(r, machines())
		s := r.state(m, 30)
		at := r.at(m)
		width, x := r.number()
		after := must(state.Store(m, s, at, width, x))
		loads(t, m, after, at, width, x)
		stores(t, m, s, at, width, must(state.Load(m, s, at, width)), s)
		stores(t, m, after, at, width, must(state.Load(m, s, at, width)), s)
		kept := away(m, at, width/8)
		gets(t, m, after, kept, must(state.Get(m, s, kept, api.MaxCells-8)))
		before := away(m, at, -2000)
		gets(t, m, after, before, must(state.Get(m, s, before, 2000)))
		if !slices.Equal(after.Regs, s.Regs) || after.Pc != s.Pc || after.Cycles != s.Cycles || state.Check(m, after) != api.OK {
			t.Errorf("%v: %v", s, after)
		}
		// A store is the stores of its bytes, in any order.
		bytewise := s
		for _, i := range r.Perm(width / 8) {
			bytewise = must(state.Store(m, bytewise, away(m, at, i), 8, x>>(8*i)&255))
		}
		gives(t, "byte by byte", bytewise, api.OK, after)
		puts(t, m, s, at, bytesOf(x, width/8), after)
		if t.Failed() {
			t.Fatal(s)
		}
	}
}

// TestP14_5Put has laws of lists of bytes.
func TestP14_5Put(t *testing.T) {
	r := newMaker(10)
	for range 600 {
		m := pick(r, machines())
		s := r.state(m, 30)
		at, b := r.at(m), r.bytes(40)
		after := must(state.Put(m, s, at, b))
		gets(t, m, after, at, b)
		puts(t, m, s, at, must(state.Get(m, s, at, len(b))), s)
		puts(t, m, after, at, must(state.Get(m, s, at, len(b))), s)
		cut := r.IntN(len(b) + 1)
		first, second := away(m, at, cut), must(state.Put(m, s, at, b[:cut]))
		puts(t, m, second, first, b[cut:], after)
		puts(t, m, must(state.Put(m, s, first, b[cut:])), at, b[:cut], after)
		if state.Check(m, after) != api.OK || !slices.Equal(after.Regs, s.Regs) || after.Pc != s.Pc || after.Cycles != s.Cycles {
			t.Errorf("%v: %v", s, after)
		}
		if t.Failed() {
			t.Fatal(s)
		}
	}
}

// TestP14_5Pairs has pairs of stores at all distances around the last address.
func TestP14_5Pairs(t *testing.T) {
	m := mixed()
	s := valid()
	s.Mem = cells(0, 9, 2, 8, 65533, 7, 65534, 6)
	for d := -9; d <= 9; d++ {
		for _, a := range []int{8, 16, 32, 64} {
			for _, b := range []int{8, 16, 32, 64} {
				at, other := uint64(65534), away(m, 65534, d)
				x, y := uint64(0x1100330055007701)>>(64-a), uint64(0x0088006600440022)>>(64-b)
				one, two := bytesOf(x, a/8), bytesOf(y, b/8)
				after := withBytes(m, withBytes(m, s, at, one), other, two)
				stores(t, m, must(state.Store(m, s, at, a, x)), other, b, y, after)
				loads(t, m, after, at, a, numberOf(bytesAt(m, after, at, a/8)))
				loads(t, m, after, other, b, y)
				if 8*d >= a || -8*d >= b {
					stores(t, m, must(state.Store(m, s, other, b, y)), at, a, x, after)
				}
			}
		}
	}
}

// visit calls a function with each list in a value.
func visit(v reflect.Value, list func(reflect.Value)) {
	switch v.Kind() {
	case reflect.Struct:
		for i := range v.NumField() {
			visit(v.Field(i), list)
		}
	case reflect.Slice:
		list(v)
		for i := range v.Len() {
			visit(v.Index(i), list)
		}
	}
}

// filled returns a value in which each list has room for more, and something stands there.
func filled[T any](x T) T {
	visit(reflect.ValueOf(&x).Elem(), func(l reflect.Value) {
		if n := l.Len(); n > 0 {
			more := reflect.AppendSlice(reflect.MakeSlice(l.Type(), 0, n+2), l)
			l.Set(reflect.Append(more, l.Index(n-1), l.Index(0)).Slice(0, n))
		}
	})
	return x
}

// wholeOf copies all that the lists of a value have room for.
func wholeOf(x any) []any {
	var all []any
	visit(reflect.ValueOf(x), func(l reflect.Value) {
		whole := reflect.MakeSlice(l.Type(), l.Cap(), l.Cap())
		reflect.Copy(whole, l.Slice(0, l.Cap()))
		all = append(all, l.Len(), whole.Interface())
	})
	return all
}

// spoil overwrites all that the lists of a state have room for.
func spoil(s api.MachState) {
	for i := range s.Regs[:cap(s.Regs)] {
		s.Regs[:cap(s.Regs)][i] ^= 0x5555
	}
	for i := range s.Mem[:cap(s.Mem)] {
		s.Mem[:cap(s.Mem)][i] = api.Cell{At: 77777, Byte: 77}
	}
}

// states are what functions make of a state.
func states(m api.Machine, s api.MachState, b []byte) []api.MachState {
	l := []api.MachState{must(state.New(m)), state.Twin(s)}
	for reg := range m.Regs {
		l = append(l, must(state.SetReg(m, s, reg, 1)))
	}
	for _, at := range []uint64{0, 1, 50, limit(m) - 1} {
		for _, width := range []int{8, 16, 32, 64} {
			l = append(l, must(state.Store(m, s, at, width, 0)), must(state.Store(m, s, at, width, 200)))
		}
		l = append(l, must(state.Put(m, s, at, nil)), must(state.Put(m, s, at, []byte{})), must(state.Put(m, s, at, b)))
	}
	return l
}

// TestR2 spoils what is returned, and makes the same calls again: results share no memory with arguments or with each other, and arguments are only read.
func TestR2(t *testing.T) {
	r := newMaker(11)
	for _, m := range machines() {
		m, s, b := filled(m), filled(r.state(m, 20)), filled([]byte{1, 0, 2, 3})
		kept := slices.Concat(wholeOf(m), wholeOf(s), wholeOf(b))
		want := states(m, s, b)
		got := states(m, s, b)
		for i, x := range got {
			if !equal(x, want[i]) {
				t.Errorf("%s: %d: %v, not %v", m.Name, i, x, want[i])
			}
			spoil(x)
			for k := i + 1; k < len(got); k++ {
				if !equal(got[k], want[k]) {
					t.Fatalf("%s: the results %d and %d share memory", m.Name, i, k)
				}
			}
		}
		read := must(state.Get(m, s, 0, 20))
		clear(read[:cap(read)])
		for reg := range m.Regs {
			reads(t, m, s, reg, valueOf(m, s, reg))
		}
		gets(t, m, s, 0, bytesAt(m, s, 0, 20))
		state.Same(s, s)
		state.Check(m, s)
		if !reflect.DeepEqual(slices.Concat(wholeOf(m), wholeOf(s), wholeOf(b)), kept) {
			t.Errorf("%s: an argument was changed", m.Name)
		}
	}
}

// TestR2Apart spoils the arguments after the calls.
func TestR2Apart(t *testing.T) {
	m := mixed()
	s, b := filled(valid()), []byte{1, 0, 2, 3}
	want, got := states(m, copyOf(s), slices.Clone(b)), states(m, s, b)
	read := must(state.Get(m, s, 0, 8))
	spoil(s)
	clear(b)
	for i := range m.Regs {
		m.Regs[i] = api.MachReg{}
	}
	for i, x := range got {
		if !equal(x, want[i]) {
			t.Errorf("%d: %v, not %v", i, x, want[i])
		}
	}
	if !bytes.Equal(read, []byte{1, 0, 0, 0, 0, 0, 0, 255}) {
		t.Error(read)
	}
}

// TestR3 has lists without anything in both forms.
func TestR3(t *testing.T) {
	m := mixed()
	a, b := valid(), valid()
	a.Mem, b.Mem = nil, []api.Cell{}
	for i, s := range states(m, a, nil) {
		gives(t, "empty memory", s, api.OK, states(m, b, []byte{})[i])
	}
	loads(t, m, a, 0, 64, 0)
	loads(t, m, b, 0, 64, 0)
	m.Banks, m.Instrs = []api.MachBank{}, []api.MachInstr{}
	for i, s := range states(m, a, nil) {
		gives(t, "no instructions", s, api.OK, states(mixed(), a, nil)[i])
	}
}

// TestR7 has lists that are far too long, and terms that contain themselves.
func TestR7(t *testing.T) {
	s := valid()
	s.Mem = make([]api.Cell, 1<<20)
	refusesAll(t, mixed(), s, api.ErrBad)
	s = valid()
	s.Regs = make([]uint64, 1<<20)
	refusesAll(t, mixed(), s, api.ErrBad)
	noPut(t, mixed(), valid(), 0, make([]byte, 1<<24), api.ErrMany)
	noGet(t, mixed(), valid(), 0, math.MaxInt, api.ErrArg)
	m := mixed()
	m.Instrs = make([]api.MachInstr, 1<<20)
	refusesAll(t, m, valid(), api.ErrMany)
	endless := api.Term{Kind: api.TermAdd, Width: 16, Sub: make([]api.Term, 2)}
	endless.Sub[0], endless.Sub[1] = endless, endless
	m.Instrs = []api.MachInstr{{Name: "i", Busy: 1, Latency: 1, Effects: []api.MachEffect{{Kind: api.EffectTrap, Value: endless}}}}
	refusesAll(t, m, valid(), api.ErrBad)
}
