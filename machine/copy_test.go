package machine_test

import (
	"math"
	"reflect"
	"slices"
	"testing"

	"retarget/api"
	"retarget/machine"
)

// same fails unless Same says so of both orders.
func same(t *testing.T, what string, a, b api.Machine, want bool) {
	t.Helper()
	if machine.Same(a, b) != want || machine.Same(b, a) != want {
		t.Errorf("%s: %v", what, !want)
	}
}

// TestP8_6EachField gives each field and each list other values: each of them makes a machine another one, also if it is not valid.
func TestP8_6EachField(t *testing.T) {
	for _, d := range append(machines(), full(), strange()) {
		changed := copyOf(d)
		same(t, d.Name, d, changed, true)
		all := spots(&changed)
		for k, s := range all {
			if len(all) > 1000 && k%23 > 0 {
				continue
			}
			kept := reflect.New(s.Type()).Elem()
			kept.Set(s.Value)
			for _, other := range s.others() {
				s.Set(other)
				same(t, d.Name+s.way, d, changed, s.Kind() == reflect.Slice && other.Len() == 0 && kept.Len() == 0)
			}
			s.Set(kept)
		}
		same(t, d.Name, d, changed, true)
	}
}

// strange returns a machine far from being valid.
func strange() api.Machine {
	m := sample()
	m.Name, m.Word, m.Address = "\xff no name", math.MinInt, -1
	m.Regs = slices.Repeat([]api.MachReg{{Width: -1, Of: 1 << 40, Low: math.MaxInt}}, 100)
	m.Banks = append(m.Banks, api.MachBank{Regs: []int{-5, -5, math.MaxInt}})
	m.Units = make([]api.MachUnit, 20)
	m.Instrs[0].Mask, m.Instrs[0].Match = 7, math.MaxUint64
	m.Instrs[0].Operands = append(m.Instrs[0].Operands, api.MachOperand{Kind: 200, Tied: 77, Pieces: make([]api.MachPiece, 9)})
	m.Instrs[0].Effects = append(m.Instrs[0].Effects, api.MachEffect{Kind: 99, Addr: api.Term{Kind: 200, Sub: make([]api.Term, 7)}, Cond: api.Term{Name: "\x00", Low: -1}})
	return m
}

func TestP8_6NilAndEmpty(t *testing.T) {
	a, b := api.Machine{}, api.Machine{Regs: []api.MachReg{}, Banks: []api.MachBank{}, Units: []api.MachUnit{}, Instrs: []api.MachInstr{}}
	same(t, "without anything", a, b, true)
	a.Banks, b.Banks = []api.MachBank{{}}, []api.MachBank{{Regs: []int{}}}
	a.Instrs, b.Instrs = []api.MachInstr{{}, {Operands: []api.MachOperand{{}}, Effects: []api.MachEffect{{}}}}, []api.MachInstr{{Operands: []api.MachOperand{}, Effects: []api.MachEffect{}}, {Operands: []api.MachOperand{{Pieces: []api.MachPiece{}}}, Effects: []api.MachEffect{{Addr: api.Term{Sub: []api.Term{}}, Value: api.Term{Sub: []api.Term{}}, Cond: api.Term{Sub: []api.Term{}}}}}}
	same(t, "with lists without anything", a, b, true)
	same(t, "its twin", a, machine.Twin(b), true)
	b.Instrs[0].Operands = make([]api.MachOperand, 1)
	same(t, "one empty operand", a, b, false)
}

func TestP8_6Order(t *testing.T) {
	all := append(machines(), full(), strange(), api.Machine{})
	for i, a := range all {
		for j, b := range all {
			same(t, a.Name+" "+b.Name, a, b, i == j)
		}
		for _, turn := range []func(m *api.Machine){
			func(m *api.Machine) { slices.Reverse(m.Regs) }, func(m *api.Machine) { slices.Reverse(m.Banks) },
			func(m *api.Machine) { slices.Reverse(m.Units) }, func(m *api.Machine) { slices.Reverse(m.Instrs) },
			func(m *api.Machine) { slices.Reverse(m.Banks[0].Regs) }, func(m *api.Machine) { slices.Reverse(m.Instrs[0].Operands) },
			func(m *api.Machine) { slices.Reverse(m.Instrs[0].Effects) }, func(m *api.Machine) { slices.Reverse(m.Instrs[0].Operands[2].Pieces) },
		} {
			b := sample()
			turn(&b)
			same(t, "turned", b, sample(), false)
			same(t, "turned", b, a, false)
		}
	}
}

// TestP8_6Twin also spoils copies, which changes nothing else.
func TestP8_6Twin(t *testing.T) {
	for _, d := range append(machines(), full(), strange(), filled(sample()), api.Machine{}) {
		kept := wholeOf(d)
		twin := machine.Twin(d)
		if !reflect.DeepEqual(copyOf(twin), copyOf(d)) {
			t.Fatalf("twin of %s: %v", d.Name, twin)
		}
		apart(t, &twin)
		for _, s := range spots(&twin) {
			spoil(s)
		}
		if !reflect.DeepEqual(wholeOf(d), kept) {
			t.Fatalf("a twin of %s shares memory", d.Name)
		}
	}
}

// TestP8_6TwinOfSharedLists has lists that are in several places.
func TestP8_6TwinOfSharedLists(t *testing.T) {
	d := sample()
	d.Banks[1].Regs = d.Banks[0].Regs
	d.Instrs[1] = d.Instrs[0]
	d.Instrs[2].Operands[0].Pieces = d.Instrs[0].Operands[2].Pieces[:1]
	d.Instrs[2].Effects = d.Instrs[0].Effects[1:]
	d.Instrs[0].Effects[0].Cond = d.Instrs[0].Effects[0].Value
	twin := machine.Twin(d)
	same(t, "a twin", d, twin, true)
	apart(t, &twin)
}

// apart fails if two lists of m share memory.
func apart(t *testing.T, m *api.Machine) {
	t.Helper()
	met := map[uintptr]string{}
	for _, s := range spots(m) {
		if s.Kind() != reflect.Slice {
			continue
		}
		for i := range s.Cap() {
			at := s.Slice(0, s.Cap()).Index(i).Addr().Pointer()
			if other, is := met[at]; is {
				t.Fatalf("%s: %s and %s share memory", m.Name, other, s.way)
			}
			met[at] = s.way
		}
	}
}

// spoil changes a number or a string, and writes behind the end of a list.
func spoil(s spot) {
	switch s.Kind() {
	case reflect.Slice:
		for i := s.Len(); i < s.Cap(); i++ {
			s.Slice(0, s.Cap()).Index(i).SetZero()
		}
	case reflect.String:
		s.SetString("spoilt")
	case reflect.Int:
		s.SetInt(-77)
	default:
		s.SetUint(77)
	}
}
