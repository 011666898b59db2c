package assemble_test

import (
	"math"
	"slices"
	"strconv"
	"strings"
	"testing"

	"retarget/api"
	"retarget/assemble"
)

// longest is a name of as many bytes as it can have.
var longest = strings.Repeat("a", api.MaxName)

// manyLabels returns so many labels in order at a place.
func manyLabels(many, at int) []api.AsmLabel {
	var l []api.AsmLabel
	for i := range many {
		l = append(l, api.AsmLabel{Name: "l" + strconv.Itoa(10000+i), At: at})
	}
	return l
}

func TestP13_1(t *testing.T) {
	for _, p := range []api.AsmProgram{
		program(nil),
		program(nil, "a=0"),
		program(nil, "a=0", "b=0"),
		program([]uint64{0, 0xffffffff, 1 << 31}),
		program([]uint64{7, 7}, "b=0", "a=1", "c=2"),
		program([]uint64{7, 7}, "A=0", "Z=0", "Z_=0", "Za=0", "a=0", "b=2"),
		program([]uint64{1}, longest+"=1", "add=1", "r0=1"),
		program(make([]uint64, api.MaxWords), "start=0", "end=4096"),
		{Words: []uint64{5}, Labels: manyLabels(api.MaxLabels, 1)},
		{Labels: manyLabels(api.MaxLabels, 0)},
		{Words: slices.Repeat([]uint64{0xffffffff}, api.MaxWords), Labels: manyLabels(api.MaxLabels, 4096)},
	} {
		for k := range 3 {
			if m := api.Given(k); m.Word == 4 {
				checks(t, m, p, api.OK)
			}
		}
	}
}

func TestP13_1Words(t *testing.T) {
	for size := 1; size <= 4; size++ {
		m := made(size)
		checks(t, m, program([]uint64{limit(m) - 1, 0, limit(m) - 1}), api.OK)
		for _, word := range []uint64{limit(m), limit(m) + 1, 2 * limit(m), 1 << 32, 1 << 63, math.MaxUint64} {
			for at := range 3 {
				words := []uint64{1, 2, 3}
				words[at] = word
				checks(t, m, program(words), api.ErrBad)
			}
		}
		checks(t, m, program(make([]uint64, api.MaxWords+1)), api.ErrBad)
		checks(t, m, program(make([]uint64, 1<<20)), api.ErrBad)
	}
}

func TestP13_1Labels(t *testing.T) {
	m, words := api.Given(1), []uint64{1, 2, 3}
	for _, l := range [][]api.AsmLabel{
		labels("=0"), labels("1a=0"), labels("_a=0"), labels("a.b=0"), labels("a =0"), labels("a:=0"), labels("ä=0"), labels("a\n=0"),
		labels(longest + "a=0"), labels(strings.Repeat("a", 1<<16) + "=0"),
		labels("a=-1"), labels("a=4"), labels("a=0", "b=4"), labels("a=-1", "b=0"),
		{{Name: "a", At: math.MinInt}}, {{Name: "a", At: math.MaxInt}}, {{Name: "a", At: 1 << 32}},
		labels("a=1", "b=0"), labels("b=1", "a=1"), labels("a=0", "c=2", "b=2"), labels("b=0", "a=0", "c=3"),
		labels("a=1", "B=1"), labels("a0=1", "a=1"), labels("ab=1", "aB=1"), labels("a_=1", "aZ=1"),
		labels("a=1", "a=1"), labels("a=0", "a=3"), labels("a=0", "b=1", "c=1", "a=2"), labels("a=3", "a=0"),
		labels("a=0", "=0"), labels("a=0", "b=1", "c d=2"),
	} {
		checks(t, m, api.AsmProgram{Words: words, Labels: l}, api.ErrBad)
	}
	checks(t, m, api.AsmProgram{Labels: manyLabels(1, 1)}, api.ErrBad)
	checks(t, m, api.AsmProgram{Words: words, Labels: manyLabels(api.MaxLabels+1, 1)}, api.ErrBad)
	checks(t, m, api.AsmProgram{Words: words, Labels: manyLabels(1<<16, 1)}, api.ErrBad)
}

// TestP13_1Chance has programs in which a few things are other than in a valid one.
func TestP13_1Chance(t *testing.T) {
	r := newMaker(1)
	met := map[api.Errno]int{}
	for i := range 4000 {
		m := made(1 + i%4)
		m.Instrs = append(m.Instrs, instr("i", 0, 0))
		p := r.program(m, 4)
		for range r.IntN(3) {
			r.spoil(m, p)
		}
		want := api.ErrBad
		if referenceValid(m, p) {
			want = api.OK
		}
		checks(t, m, p, want)
		met[want]++
	}
	if met[api.OK] < 1000 || met[api.ErrBad] < 1000 {
		t.Error(met)
	}
}

// spoil changes a word or a label of a program.
func (r maker) spoil(m api.Machine, p api.AsmProgram) {
	if len(p.Words) > 0 && r.IntN(4) == 0 {
		p.Words[r.IntN(len(p.Words))] = limit(m) - uint64(r.IntN(2))
	}
	if len(p.Labels) == 0 {
		return
	}
	l := &p.Labels[r.IntN(len(p.Labels))]
	switch r.IntN(4) {
	case 0:
		l.Name = pick(r, append(r.names(), "", "0", "zz", longest+"x"))
	case 1:
		l.At = r.IntN(len(p.Words)+3) - 1
	case 2:
		*l = pick(r, p.Labels)
	case 3:
		k := r.IntN(len(p.Labels))
		*l, p.Labels[k] = p.Labels[k], *l
	}
}

// TestP13_1Read tells that Check asks for no more: each program that it accepts has a text that is read as this program.
func TestP13_1Read(t *testing.T) {
	for _, p := range []api.AsmProgram{
		{Words: slices.Repeat([]uint64{0x1234}, api.MaxWords), Labels: manyLabels(api.MaxLabels, 4096)},
		{Words: make([]uint64, 4), Labels: slices.Concat(manyLabels(500, 0), labels("z=1", "y=4"))},
	} {
		m := made(2)
		checks(t, m, p, api.OK)
		s, e := assemble.Print(m, p)
		if e != api.OK {
			t.Fatal(e)
		}
		reads(t, m, s, p)
	}
}
