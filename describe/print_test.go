package describe_test

import (
	"math"
	"reflect"
	"strings"
	"testing"

	"retarget/api"
	"retarget/describe"
	"retarget/machine"
)

func TestP10_1Sample(t *testing.T) {
	prints(t, sample(), sampleText)
	prints(t, tiny(), tinyText)
}

// TestP10_1Given has the lines of the given machines that the document shows, and a few others.
func TestP10_1Given(t *testing.T) {
	for k, parts := range [][]string{
		{
			"machine risc word 4 address 32\nreg r0 32\nreg r1 32\n",
			"\nreg sp 32\nreg lr 32\nbank gpr : r0 r1 r2 r3 r4 r5 r6 r7 r8 r9 r10 r11 r12 r13 sp lr\nunit alu 1\nunit mem 1\nunit mul 1\n",
			"\ninstr add mask 0xfc000000 match 0x0 unit alu busy 1 latency 1 slots 0\noperand d reg gpr at 22 len 4\noperand a reg gpr at 18 len 4\noperand b reg gpr at 14 len 4\nset d \"(add a:32 b:32)\"\ninstr sub mask 0xfc000000 match 0x4000000 ",
			"\ninstr call mask 0xfc000000 match 0x84000000 unit alu busy 1 latency 1 slots 1\noperand to jump scale 0 at 0 len 26\nfix lr \"(add pc:32 32:00000008)\"\ngoto \"to:32\"\n",
			"\ngoto \"to:32\" if \"(not (eq a:32 b:32))\"\n",
			"\nstore \"(add a:32 n:32)\" \"(extract 0 8 d:32)\"\n",
			"\ntrap \"(concat 1:1 a:32)\"\n",
			"\nset d \"n:32\"\n",
		}, {
			"machine flags word 2 address 16\nreg ax 16\n",
			"\nreg al 8 in ax at 0\nreg bl 8 in bx at 0\nreg cl 8 in cx at 0\nreg dl 8 in dx at 0\nreg ah 8 in ax at 8\nreg bh 8 in bx at 8\nreg ch 8 in cx at 8\nreg dh 8 in dx at 8\nreg zf 1\nreg cf 1\nreg sf 1\nbank w : ax bx cx dx si di bp sp\nbank b : al bl cl dl ah bh ch dh\nunit core 1\ninstr mov ",
			"\ninstr movh mask 0xfc00 match 0x800 unit core busy 1 latency 1 slots 0\noperand d reg w at 7 len 3\noperand a tied d\noperand n signed scale 0 at 0 len 7\nset d \"(or (shl n:16 16:0009) (and a:16 16:01ff))\"\n",
			"\noperand n unsigned scale 1 at 0 len 4\n",
			"\ninstr ret mask 0xfc00 match 0x9800 unit core busy 1 latency 2 slots 0\nfix sp \"(add r.sp:16 16:0002)\"\ngoto \"(load 16 r.sp:16)\"\n",
		}, {
			"machine wide word 4 address 32\nreg w0 32\n",
			"\nunit x 2\nunit y 1\nunit z 1\ninstr add mask 0xff000000 match 0x1000000 unit x ",
			"\noperand n signed scale 0 at 15 len 6 at 0 len 15\n",
			"\noperand n unsigned scale 0 at 0 len 15 at 18 len 1\n",
			"\noperand n signed scale 2 at 0 len 15\n",
			"\noperand to jump scale 0 at 8 len 7 at 0 len 8\ngoto \"to:32\" if \"(eq a:32 32:00000000)\"\n",
		},
	} {
		s := must(describe.Print(api.Given(k)))
		if !strings.HasPrefix(s, parts[0]) {
			t.Errorf("%d begins with %.80q", k, s)
		}
		for _, part := range parts {
			if !strings.Contains(s, part) {
				t.Errorf("%d does not have %q", k, part)
			}
		}
		if s != textOf(api.Given(k)) {
			t.Errorf("%d: %s", k, s)
		}
	}
}

func TestP10_1ByChance(t *testing.T) {
	m := newMaker(1)
	kinds := [6]int{}
	for range 2000 {
		d := m.machine()
		if e := machine.Check(d); e != api.OK {
			t.Fatal(e, d)
		}
		prints(t, d, textOf(d))
		for _, i := range d.Instrs {
			for _, f := range i.Effects {
				kinds[f.Kind]++
			}
			if len(i.Operands) > 0 {
				kinds[5]++
			}
		}
	}
	for _, n := range kinds[1:] {
		if n < 500 {
			t.Error(kinds)
		}
	}
}

// TestP10_1EachField gives each number, name and list of a machine another value, which may make it invalid.
func TestP10_1EachField(t *testing.T) {
	valid, bad := 0, 0
	for _, of := range []func() api.Machine{sample, tiny, func() api.Machine { return newMaker(12).machine() }} {
		whole := of()
		for k := range spots(&whole) {
			for _, by := range []int{1, -1, 2, math.MaxInt32, math.MinInt} {
				d := of()
				shift(spots(&d)[k], by)
				want, e := referencePrint(d)
				if e != api.OK {
					refuses(t, d, e)
					bad++
					continue
				}
				prints(t, d, want)
				valid++
			}
		}
	}
	if valid < 300 || bad < 300 {
		t.Error(valid, bad)
	}
}

// shift gives a spot another value.
func shift(s spot, by int) {
	switch s.Kind() {
	case reflect.Int:
		s.SetInt(s.Int() + int64(by))
	case reflect.Uint64, reflect.Uint8:
		s.SetUint(s.Uint() + uint64(by))
	case reflect.String:
		s.SetString(s.String() + map[int]string{1: "_", -1: " ", 2: "x9"}[by])
	case reflect.Slice:
		switch {
		case s.Len() == 0:
		case by < 0:
			s.Set(s.Slice3(0, s.Len()-1, s.Len()-1))
		default:
			s.Set(reflect.Append(s.Slice3(0, s.Len(), s.Len()), s.Index(0)))
		}
	}
}

// TestP10_1CheckFirst has machines with Check's errors, also with texts that would be too long.
func TestP10_1CheckFirst(t *testing.T) {
	refuses(t, api.Machine{}, api.ErrBad)
	for _, of := range []func() api.Machine{sample, func() api.Machine { return wide(65536) }, func() api.Machine { return wide(65537) }} {
		d := of()
		d.Word = 5
		refuses(t, d, api.ErrBad)
		d = of()
		d.Regs = append(d.Regs, d.Regs[0])
		refuses(t, d, api.ErrBad)
		d = of()
		d.Regs = append(d.Regs, make([]api.MachReg, 64)...)
		refuses(t, d, api.ErrMany)
		d = of()
		d.Instrs = append(d.Instrs, make([]api.MachInstr, 64)...)
		refuses(t, d, api.ErrMany)
		d = of()
		d.Instrs[0].Unit = 7
		refuses(t, d, api.ErrBad)
		d = of()
		d.Instrs[0].Effects[0].Value = api.Term{}
		refuses(t, d, api.ErrBad)
	}
}

// wide returns a valid machine whose text has so many bytes, from 20000 to 100000.
func wide(many int) api.Machine {
	d := tiny()
	d.Name = "wide"
	for i := range 64 {
		f := api.MachEffect{Kind: api.EffectTrap, Value: parse("r.a:8")}
		d.Instrs = append(d.Instrs, api.MachInstr{Name: "i" + string(rune('a'+i/8)) + string(rune('a'+i%8)), Busy: 1, Latency: 1, Effects: []api.MachEffect{f}})
	}
	left, step := many-len(textOf(d)), len("(add (mul r.a:8 8:05) )")
	for i := 0; left >= step; i++ {
		value := &d.Instrs[i%64].Effects[0].Value
		*value = longer(*value, 1)
		left -= step
	}
	for i := 0; left > 0; i++ {
		d.Instrs[i].Name += "_"
		left--
	}
	if n := len(textOf(d)); n != many {
		panic(n)
	}
	return d
}

// longer returns a term with x deep in it.
func longer(x api.Term, times int) api.Term {
	for range times {
		x = api.Term{Kind: api.TermAdd, Width: 8, Sub: []api.Term{parse("(mul r.a:8 8:05)"), x}}
	}
	return x
}

func TestP10_1Limit(t *testing.T) {
	for _, n := range []int{65000, 65535, 65536} {
		d := wide(n)
		prints(t, d, textOf(d))
	}
	refuses(t, wide(65537), api.ErrMany)
	refuses(t, wide(65600), api.ErrMany)
	refuses(t, greatest(), api.ErrMany)
}

// greatest returns a valid machine with as many instructions and effects as there may be, with large terms.
func greatest() api.Machine {
	d := tiny()
	x := longer(parse("r.a:8"), 50)
	for i := range 64 {
		f := api.MachEffect{Kind: api.EffectReg, Operand: -1, Value: x}
		d.Instrs = append(d.Instrs, api.MachInstr{Name: "i" + strings.Repeat("x", i%20) + string(rune('a'+i/20)), Busy: 15, Latency: 15, Effects: []api.MachEffect{f, f, f, f}})
	}
	return d
}
