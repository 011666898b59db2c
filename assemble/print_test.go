package assemble_test

import (
	"math"
	"slices"
	"strings"
	"testing"

	"retarget/api"
	"retarget/lexer"
)

func TestP13_3(t *testing.T) {
	// The chapter's example.
	prints(t, api.Given(0), program([]uint64{0x2c44ffff, 0x78043ffe, 7}, "loop=0"), "loop:\naddi r1, r1, -1\nbne r1, r0, loop\n@ 0x7\n")
	prints(t, api.Given(0), program([]uint64{0x0048c000, 0x83ffffff, 0x98000000, 0}), "add r1, r2, r3\njump -1\nnop\nadd r0, r0, r0\n")
	prints(t, api.Given(1), program([]uint64{0x0c10, 0x9800, 0x00a0, 0x51ff, 0xffff}, "end=5", "last=5"), "add ax, bx\nret\nmov bx, cx\nld dx, sp, 30\n@ 0xffff\nend:\nlast:\n")
	for k := range 3 {
		prints(t, api.Given(k), program(nil), "")
		prints(t, api.Given(k), program([]uint64{}, "b=0", "c=0"), "b:\nc:\n")
	}
}

// TestP13_3Words has words of all kinds of operands, with tied ones, and words that are legal for no instruction, or for two.
func TestP13_3Words(t *testing.T) {
	m := small()
	for want, word := range map[string]uint64{
		"none": 0x00, "@ 0x1": 0x01, "@ 0xf": 0x0f, "jump -4": 0x14, "jump -1": 0x17, "jump 0": 0x10, "jump 3": 0x13, "odd -4": 0x1a, "odd 2": 0x19, "@ 0x1c": 0x1c,
		"one 0": 0x20, "one 2": 0x22, "@ 0x23": 0x23, "one 4": 0x24, "one 15": 0x2f, "low 0": 0x30, "low 14": 0x37, "low -2": 0x3f, "low -16": 0x38,
		"reg x1, x7": 0x40, "reg x4, x0": 0x5d, "@ 0x43": 0x43, "tie x1, 0": 0x60, "tie x4, 8": 0x65, "tie x0, 24": 0x6e, "@ 0x6f": 0x6f, "@ 0x70": 0x70,
		"all x3, 0, 0, 0": 0x80, "all x0, -1, 3, -1": 0xff,
	} {
		prints(t, m, program([]uint64{word}), want+"\n")
		prints(t, m, program([]uint64{0, word, word}), "none\n"+want+"\n"+want+"\n")
	}
	for size, want := range []string{"", "@ 0xff\n@ 0x0\n@ 0x1a\n", "@ 0xffff\n@ 0x0\n@ 0xabc\n", "@ 0xffffff\n@ 0x0\n@ 0xbcdef\n", "@ 0xffffffff\n@ 0x0\n@ 0x123456\n"} {
		if size > 0 {
			m := made(size)
			prints(t, m, program([]uint64{limit(m) - 1, 0, []uint64{0, 0x1a, 0xabc, 0xbcdef, 0x123456}[size]}), want)
		}
	}
}

// TestP13_3Labels has jumps to places with labels, and to others, also outside of the program.
func TestP13_3Labels(t *testing.T) {
	m := small()
	prints(t, m, program([]uint64{0x16, 0x17, 0x10, 0x11, 0x12, 0}, "a=0", "b=1", "c=3", "d=5", "e=6"), "a:\njump -2\nb:\njump b\njump c\nc:\njump d\njump 2\nd:\nnone\ne:\n")
	prints(t, m, program([]uint64{0x16, 0x14, 0x13, 0x12, 0x11}, "a=0", "end=5"), "a:\njump -2\njump -4\njump 3\njump 2\njump 1\nend:\n")
	// The first one of several, bytewise; other operands are numbers, although a label is there.
	prints(t, m, program([]uint64{0x17, 0x10, 0x21, 0x31}, "A=0", "Z=0", "a=0", "b=2", "c=2", "d=4"), "A:\nZ:\na:\njump A\njump b\nb:\nc:\none 1\nlow 2\nd:\n")
	prints(t, m, program([]uint64{0x1b, 0x19, 0x80, 0x83}, "one=1", "x0=3", "x9=4"), "odd -2\none:\nodd x9\nall x3, 0, 0, x0\nx0:\nall x3, 0, 0, x0\nx9:\n")
	prints(t, m, program([]uint64{0x1a}, "a=0", longest+"=1"), "a:\nodd -4\n"+longest+":\n")
	prints(t, m, program([]uint64{0x10}, "a=0", longest+"=1"), "a:\njump "+longest+"\n"+longest+":\n")
}

// TestP13_3Chance has programs by chance, against the definition.
func TestP13_3Chance(t *testing.T) {
	r := newMaker(3)
	jumps := 0
	for i := range 3000 {
		m := r.machine(1 + i%4)
		if i%5 == 0 {
			m = api.Given(i / 5 % 3)
		}
		p := r.program(m, 12)
		want := referenceText(m, p)
		prints(t, m, p, want)
		for _, l := range p.Labels {
			jumps += strings.Count(want, " "+l.Name+"\n")
		}
	}
	if jumps < 500 {
		t.Error(jumps)
	}
}

// TestP13_3Bad has programs that are not valid; that comes before texts that are too long.
func TestP13_3Bad(t *testing.T) {
	for k := range 3 {
		m := api.Given(k)
		for _, p := range []api.AsmProgram{
			program([]uint64{limit(m)}), program([]uint64{0, math.MaxUint64}), program(nil, "a=1"), program(nil, "a=-1"), program(nil, "b=0", "a=0"),
			program(nil, "a=0", "a=0"), program([]uint64{0}, "a=0", "a=1"), program(nil, "=0"), program(nil, "a b=0"),
			program(make([]uint64, api.MaxWords+1)), {Labels: manyLabels(api.MaxLabels+1, 0)},
			{Words: append(make([]uint64, api.MaxWords-1), limit(m))},
		} {
			printsNot(t, m, p, api.ErrBad)
		}
	}
}

// TestP13_3Tokens has texts with as many tokens as there may be, and more.
func TestP13_3Tokens(t *testing.T) {
	m := api.Given(0)
	// 7 tokens each, then 2 each.
	words := slices.Concat(make([]uint64, 2856), slices.Repeat([]uint64{0x98000000}, 4))
	text := strings.Repeat("add r0, r0, r0\n", 2856) + strings.Repeat("nop\n", 4)
	prints(t, m, program(words), text)
	if tokens, _, _ := lexer.Tokens(text); len(tokens) != api.MaxTokens {
		t.Error(len(tokens))
	}
	other := slices.Clone(words)
	other[2859] = 1
	printsNot(t, m, program(other), api.ErrMany)
	other[2859] = 0
	printsNot(t, m, program(other), api.ErrMany)
	printsNot(t, m, program(append(words, 0x98000000)), api.ErrMany)
	printsNot(t, m, program(words, "a=0"), api.ErrMany)
	printsNot(t, m, program(words, "a=2860"), api.ErrMany)
	prints(t, m, program(words[2:], "a=0", "b=2858"), "a:\n"+strings.Repeat("add r0, r0, r0\n", 2854)+strings.Repeat("nop\n", 4)+"b:\n")
	printsNot(t, m, program(make([]uint64, api.MaxWords)), api.ErrMany)
}

// TestP13_3Text has texts with as many bytes as there may be, and more.
func TestP13_3Text(t *testing.T) {
	// 50 bytes and 3 tokens each.
	m := made(1, instr(longest, 0xfe, 2, register(bank2, 0, 1)), instr("n", 0xff, 0))
	m.Regs[3].Name = strings.Repeat("B", api.MaxName)
	line := longest + " " + m.Regs[3].Name + "\n"
	words := append(slices.Repeat([]uint64{2}, 1310), slices.Repeat([]uint64{0}, 18)...)
	text := strings.Repeat(line, 1310) + strings.Repeat("n\n", 18)
	if len(text) != api.MaxText {
		t.Fatal(len(text))
	}
	prints(t, m, program(words), text)
	printsNot(t, m, program(append(words, 0)), api.ErrMany)
	printsNot(t, m, program(words, "a=0"), api.ErrMany)
	fewer := slices.Delete(slices.Clone(words), 1310, 1312)
	prints(t, m, program(fewer, "ab=0"), "ab:\n"+strings.Repeat(line, 1310)+strings.Repeat("n\n", 16))
	prints(t, m, program(fewer, "ab=1326"), text[:api.MaxText-4]+"ab:\n")
	printsNot(t, m, program(fewer, "abc=0"), api.ErrMany)
	printsNot(t, m, program(fewer, "abc=1326"), api.ErrMany)
	printsNot(t, m, program(slices.Repeat([]uint64{2}, api.MaxWords)), api.ErrMany)
}
