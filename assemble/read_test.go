package assemble_test

import (
	"fmt"
	"slices"
	"strings"
	"testing"

	"retarget/api"
	"retarget/assemble"
	"retarget/lexer"
)

func TestP13_2(t *testing.T) {
	// The chapter's example.
	reads(t, api.Given(0), "loop:\naddi r1, r1, -1\nbne r1, r0, loop\n@ 7\n", program([]uint64{0x2c44ffff, 0x78043ffe, 7}, "loop=0"))
	reads(t, api.Given(0), "add r1, r2, r3\njump -1\nnop", program([]uint64{0x0048c000, 0x83ffffff, 0x98000000}))
	reads(t, api.Given(1), "add ax, bx\nret\nmov bx, cx\nld dx, sp, 30\nstb bh, bp, 15", program([]uint64{0x0c10, 0x9800, 0x00a0, 0x51ff, 0x5eef}))
	reads(t, api.Given(2), "nop\nback: \nbz w7, back\nst w1, w3, -8\nseth h2, 40000\nsel w1, w2, w3, w4", program([]uint64{0x28000000, 0x20_1c7fff, 0x192c7ffe, 0x0f441c40, 0x1f2e2000}, "back=1"))
	for k := range 3 {
		for _, s := range []string{"", "\n", "\n\n\n", " ", "# nop", "  # a:\n\n#"} {
			reads(t, api.Given(k), s, program(nil))
		}
	}
}

// TestP13_2Layout has the same text in other forms.
func TestP13_2Layout(t *testing.T) {
	m, want := api.Given(0), program([]uint64{0x2c44ffff, 0x78043ffe, 7}, "end=3", "loop=0")
	sortLabels(want.Labels)
	for _, s := range []string{
		"loop:\naddi r1, r1, -1\nbne r1, r0, loop\n@ 7\nend:\n",
		"loop:\naddi r1, r1, -1\nbne r1, r0, loop\n@ 7\nend:",
		"\n\nloop:\n\naddi r1, r1, -1\n\n\nbne r1, r0, loop\n@ 7\nend:\n\n\n",
		"  loop :  \naddi  r1 ,r1,-1#nop\n#jump 0\nbne r1,r0,loop\n@7#\nend  :# x:",
		"loop:#\n addi r1,r1   , -1\nbne r1, r0, -2\n@ 0x7\nend:\n",
		"loop:\n@ 0x2c44ffff\n@ 2013544446\n@ 7\nend:\n",
		"# a text\nloop: # :\naddi r1, r1, -1 # @ 1\nbne r1, r0, loop # loop:\n@ 7\nend:\n# nop",
	} {
		reads(t, m, s, want)
	}
	reads(t, m, "andi r1, r2, 0xffff\nandi r1, r2, 65535\ntrap 0x0\ntrap 0", program([]uint64{0x3048ffff, 0x3048ffff, 0x8c000000, 0x8c000000}))
}

// TestP13_2Labels has labels above and below the words that refer to them, and at all places.
func TestP13_2Labels(t *testing.T) {
	m := small()
	reads(t, m, "a:", program(nil, "a=0"))
	reads(t, m, "b:\na:\nC:", program(nil, "C=0", "a=0", "b=0"))
	reads(t, m, "b:\nnone\nd:\nc:\nnone\na:", program([]uint64{0, 0}, "b=0", "c=1", "d=1", "a=2"))
	reads(t, m, "jump a\nnone\na:\nnone\njump a", program([]uint64{0x11, 0, 0, 0x16}, "a=2"))
	reads(t, m, "jump a\na:\nb:\njump b\njump end\nend:", program([]uint64{0x10, 0x17, 0x10}, "a=1", "b=1", "end=3"))
	// Labels with the names of instructions, registers and words of the form.
	reads(t, m, "none:\nnone\nx0:\njump x0\njump:\njump jump\nx9:", program([]uint64{0, 0x17, 0x17}, "none=0", "x0=1", "jump=2", "x9=3"))
	reads(t, m, longest+":\njump "+longest, program([]uint64{0x17}, longest+"=0"))
	// Labels are told apart by the case of letters.
	reads(t, m, "a:\nnone\nA:\njump a\njump A", program([]uint64{0, 0x16, 0x16}, "a=0", "A=1"))
	readsNot(t, m, "jump B\nb:", 1, api.ErrName)
}

// TestP13_2Jump has places at all distances, in the fields and beyond them, and these numbers.
func TestP13_2Jump(t *testing.T) {
	m := small()
	for name, fields := range map[string]map[int]uint64{
		"jump": {-4: 0x14, -3: 0x15, -2: 0x16, -1: 0x17, 0: 0x10, 1: 0x11, 2: 0x12, 3: 0x13},
		"odd":  {-4: 0x1a, -2: 0x1b, 0: 0x18, 2: 0x19},
	} {
		for n := range 12 {
			ahead, back := slices.Repeat([]uint64{0}, n+1), slices.Repeat([]uint64{0}, n+1)
			text := name + " a\n" + strings.Repeat("none\n", n) + "a:"
			if word, in := fields[n]; in {
				ahead[0] = word
				reads(t, m, text, program(ahead, fmt.Sprint("a=", n+1)))
				reads(t, m, fmt.Sprint(name+" ", n), program([]uint64{word}))
			} else {
				readsNot(t, m, text, 1, api.ErrRange)
				readsNot(t, m, fmt.Sprint("\n"+name+" ", n), 2, api.ErrRange)
			}
			text = "a:\n" + strings.Repeat("none\n", n) + name + " a"
			if word, in := fields[-n-1]; in {
				back[n] = word
				reads(t, m, text, program(back, "a=0"))
				reads(t, m, fmt.Sprint(name+" ", -n-1), program([]uint64{word}))
			} else {
				readsNot(t, m, text, n+2, api.ErrRange)
				readsNot(t, m, fmt.Sprint("\n"+name+" ", -n-1), 2, api.ErrRange)
			}
		}
	}
}

// TestP13_2Operands has all kinds of operands at their bounds.
func TestP13_2Operands(t *testing.T) {
	m := small()
	for text, want := range map[string]uint64{
		"one 0": 0x20, "one 15": 0x2f, "one 0xf": 0x2f, "one 3": 0x23, "both": 0x23,
		"low 0": 0x30, "low 2": 0x31, "low 14": 0x37, "low -2": 0x3f, "low -16": 0x38, "low 0xe": 0x37,
		"reg x1, x7": 0x40, "reg x4, x7": 0x41, "reg x0, x7": 0x42, "reg x0, x0": 0x5e, "reg x4, x4": 0x4d,
		"tie x1, 0": 0x60, "tie x4, 8": 0x65, "tie x0, 24": 0x6e,
		"all x3, 0, 0, 0": 0x80, "all x0, 1, 3, 1": 0xdd, "all x3, -2, 2, -2": 0xaa, "all x3, -1, 0, -1": 0xb3,
		"@ 0": 0, "@ 255": 0xff, "@ 0xff": 0xff, "@ 0x0": 0, "@ 128": 0x80,
	} {
		reads(t, m, text, program([]uint64{want}))
		reads(t, m, "none\n"+text+"\nnone", program([]uint64{0, want, 0}))
	}
	reads(t, m, "all x0, 0, 0, a\na:\nall x0, 0, 0, a", program([]uint64{0xc0, 0xc3}, "a=1"))
	for text, want := range map[string]api.Errno{
		"one 16": api.ErrRange, "one -1": api.ErrRange, "one 0x10": api.ErrRange, "one 999999999999999999": api.ErrRange, "one -999999999999999999": api.ErrRange,
		"low 1": api.ErrRange, "low 15": api.ErrRange, "low 16": api.ErrRange, "low -1": api.ErrRange, "low -17": api.ErrRange, "low -18": api.ErrRange, "low 0xfffffffffffffff": api.ErrRange,
		"tie x1, 4": api.ErrRange, "tie x1, 32": api.ErrRange, "tie x1, -8": api.ErrRange,
		"reg x2, x7": api.ErrName, "reg x1, x9": api.ErrName, "reg x1, x8": api.ErrName, "reg X1, x1": api.ErrName, "reg b3, x1": api.ErrName, "tie x3, 0": api.ErrName,
		"all x1, 0, 0, 0": api.ErrName, "all x3, 2, 0, 0": api.ErrRange, "all x3, 0, 4, 0": api.ErrRange, "all x3, 0, 0, 2": api.ErrRange, "all x3, 0, 0, -3": api.ErrRange,
	} {
		readsNot(t, m, text, 1, want)
		readsNot(t, m, "none\n\n"+text+"\nnone", 3, want)
	}
}

// TestP13_2Plain has words as numbers, for words of all sizes.
func TestP13_2Plain(t *testing.T) {
	for size := 1; size <= 4; size++ {
		m := made(size)
		for _, word := range []uint64{0, 1, limit(m) / 2, limit(m) - 1} {
			reads(t, m, fmt.Sprintf("@ %d\n@ %#x", word, word), program([]uint64{word, word}))
		}
		for _, n := range []int{-1, -int(limit(m)), int(limit(m)), int(limit(m)) + 1, 2 * int(limit(m)), 1 << 32, 1 << 40, 999999999999999999, -999999999999999999} {
			readsNot(t, m, fmt.Sprintf("@ 0\n@ %d", n), 2, api.ErrRange)
		}
	}
}

// TestP13_2First has lines with tokens that are not expected: the first one of them counts.
func TestP13_2First(t *testing.T) {
	m := small()
	for text, want := range map[string]api.Errno{
		// In the place of the name.
		"other": api.ErrName, "other 1, 2": api.ErrName, "None": api.ErrName, "x0": api.ErrName, "a": api.ErrName, "a: none": api.ErrName, "a::": api.ErrName, "a =": api.ErrName, "other )": api.ErrName,
		"7": api.ErrForm, ":": api.ErrForm, ",": api.ErrForm, `"none"`: api.ErrForm, `"@" 1`: api.ErrForm, ": a": api.ErrForm, "= none": api.ErrForm, "-1": api.ErrForm, "0xff": api.ErrForm, `"a":`: api.ErrForm, "7:": api.ErrForm, "::": api.ErrForm,
		// Behind it.
		"none none": api.ErrForm, "none 1": api.ErrForm, "none ,": api.ErrForm, "none : none": api.ErrForm, "none x0": api.ErrForm, "none ::": api.ErrForm, `none ":"`: api.ErrForm, "none @": api.ErrForm, "none =": api.ErrForm,
		"one": api.ErrForm, "one ,": api.ErrForm, "one x0": api.ErrForm, "one a": api.ErrForm, `one "1"`: api.ErrForm, "one , 1": api.ErrForm, "one 1,": api.ErrForm, "one 1 1": api.ErrForm, "one 1, 1": api.ErrForm, "one 1 a": api.ErrForm, "one 16 a": api.ErrRange,
		"low": api.ErrForm, "low a": api.ErrForm, "low other": api.ErrForm, "low 1 other": api.ErrRange,
		"jump": api.ErrForm, "jump other": api.ErrName, "jump x0": api.ErrName, "jump none": api.ErrName, "jump ,": api.ErrForm, `jump "a"`: api.ErrForm, "jump a, a": api.ErrForm, "jump a a": api.ErrForm, "jump other other": api.ErrName, "jump 9 other": api.ErrRange, "jump a:": api.ErrForm, "jump @ 0": api.ErrForm,
		"odd 1": api.ErrRange, "odd other": api.ErrName, "odd 1 1": api.ErrRange,
		"reg": api.ErrForm, "reg x1": api.ErrForm, "reg x1,": api.ErrForm, "reg x1 x1": api.ErrForm, "reg x1, x1,": api.ErrForm, "reg x1, x1, x1": api.ErrForm, "reg x1, x1 x1": api.ErrForm, "reg x1, 1": api.ErrForm, "reg 1, x1": api.ErrForm, "reg , x1": api.ErrForm, `reg "x1", x1`: api.ErrForm, "reg x1 = x1": api.ErrForm, `reg x1 "," x1`: api.ErrForm,
		"reg other": api.ErrName, "reg other x1": api.ErrName, "reg x1 other": api.ErrForm, "reg x1, other": api.ErrName, "reg x2, 1": api.ErrName, "reg 1, other": api.ErrForm, "reg x1, other 1": api.ErrName, "reg a, x1": api.ErrName,
		// What is tied does not stand in the text.
		"tie x1, x1, 0": api.ErrForm, "tie x1": api.ErrForm, "tie x1, ": api.ErrForm, "tie x1 0": api.ErrForm, "tie x1, 0, 0": api.ErrForm, "tie x1, 1, 0": api.ErrRange, "tie x1,, 0": api.ErrForm,
		"all x0, 2, other, other": api.ErrRange, "all x0, 0, other, other": api.ErrForm, "all x0, 0, 9, other": api.ErrRange, "all x0, 0, 0, other": api.ErrName, "all x0, 0, 0, b3": api.ErrName, "all x0, 0, 0": api.ErrForm, "all x0, 0, 0,": api.ErrForm, "all other, 9": api.ErrName, "all x0 9": api.ErrForm, "all x0, 0, 0, 0, 0": api.ErrForm,
		"@": api.ErrForm, "@ a": api.ErrForm, "@ other": api.ErrForm, `@ "1"`: api.ErrForm, "@ @": api.ErrForm, "@ 1 1": api.ErrForm, "@ 1,": api.ErrForm, "@ 256 1": api.ErrRange, "@ 256": api.ErrRange, "@ -1": api.ErrRange, "@ , 256": api.ErrForm, "@ 1 256": api.ErrForm, "@ :": api.ErrForm, "@:": api.ErrForm, "@ 1:": api.ErrForm, "@ none": api.ErrForm,
	} {
		if _, at, e := lexer.Tokens(text); e != api.OK {
			t.Errorf("%q: %v at %d", text, e, at)
		}
		readsNot(t, m, text+"\na:", 1, want)
		readsNot(t, m, "# first\na:\nnone\n"+text+"\nother\n", 4, want)
		readsNot(t, m, "a:\n"+text+" # last", 2, want)
	}
}

// TestP13_2Twice has labels with one name: words refer to the first one, and the second one has an error.
func TestP13_2Twice(t *testing.T) {
	m := small()
	readsNot(t, m, "a:\na:", 2, api.ErrTwice)
	readsNot(t, m, "a:\nb:\nnone\n\nb:\na:\nother", 5, api.ErrTwice)
	readsNot(t, m, "a:\nnone\na:\nb:\nb:", 3, api.ErrTwice)
	none := strings.Repeat("none\n", 4)
	// Only the first one is far away, or near.
	readsNot(t, m, "a:\n"+none+"jump a\na:", 6, api.ErrRange)
	readsNot(t, m, "jump a\na:\n"+none+"a:", 7, api.ErrTwice)
	readsNot(t, m, "jump a\n"+none+"a:\nnone\na:\n", 1, api.ErrRange)
	readsNot(t, m, "a:\n"+none+"a:\njump a\n", 6, api.ErrTwice)
}

// TestP13_2Line has texts with several errors: that of the first line counts, but those of tokens come before all others.
func TestP13_2Line(t *testing.T) {
	m := small()
	readsNot(t, m, "none\none\nother\n", 2, api.ErrForm)
	readsNot(t, m, "\n\n\nother\none\na:\na:", 4, api.ErrName)
	readsNot(t, m, "a:\n\none 99\nother\na:", 3, api.ErrRange)
	readsNot(t, m, "a:\n\na:\none 99\nother", 3, api.ErrTwice)
	readsNot(t, m, "# other\n# one\n\njump b\nb", 4, api.ErrName)
	readsNot(t, m, "other\nnone\n?", 3, api.ErrForm)
	readsNot(t, m, "other\nnone\n\n# ?\n none 007 # 1\n", 5, api.ErrForm)
	readsNot(t, m, "a:\na:\nother \"\n\"\n", 3, api.ErrForm)
	readsNot(t, m, "?", 1, api.ErrForm)
	readsNot(t, m, "\n?\n?", 2, api.ErrForm)
	readsNot(t, m, "none\r\nnone", 1, api.ErrForm)
	readsNot(t, m, "none\n\tnone", 2, api.ErrForm)
	readsNot(t, m, longest+":\n"+longest+"a:", 2, api.ErrForm)
	readsNot(t, m, "none\n\n\nnone\x00", 4, api.ErrForm)
	readsNot(t, m, "none\n"+strings.Repeat(" ", api.MaxText-6)+"?", 2, api.ErrForm)
}

// TestP13_2Tokens has texts that are too long, or have too many tokens: then there is no line.
func TestP13_2Tokens(t *testing.T) {
	m := small()
	readsNot(t, m, strings.Repeat(" ", api.MaxText+1), 0, api.ErrMany)
	readsNot(t, m, "?"+strings.Repeat(" ", api.MaxText), 0, api.ErrMany)
	readsNot(t, m, strings.Repeat("other\n", 20000), 0, api.ErrMany)
	readsNot(t, m, strings.Repeat("\n", api.MaxTokens+1), 0, api.ErrMany)
	readsNot(t, m, "other"+strings.Repeat("\n", api.MaxTokens), 0, api.ErrMany)
	readsNot(t, m, "other"+strings.Repeat("\n", api.MaxTokens)+"?", 0, api.ErrMany)
	readsNot(t, m, "other\n?"+strings.Repeat("\n", api.MaxTokens), 2, api.ErrForm)
	readsNot(t, m, strings.Repeat("\n", api.MaxTokens)+"?", api.MaxTokens+1, api.ErrForm)
	readsNot(t, m, strings.Repeat("\n", api.MaxTokens-1)+"other", api.MaxTokens, api.ErrName)
	reads(t, m, strings.Repeat(" ", api.MaxText), program(nil))
	reads(t, m, strings.Repeat("\n", api.MaxTokens-1)+"none", program([]uint64{0}))
	reads(t, m, "none"+strings.Repeat("\n", api.MaxTokens-1), program([]uint64{0}))
}

// TestP13_2Many has as many words and labels as there may be, and more: that line has this error before all others, but lines above it come first.
func TestP13_2Many(t *testing.T) {
	m := small()
	words, most := strings.Repeat("none\n", api.MaxWords), make([]uint64, api.MaxWords)
	reads(t, m, words, program(most))
	reads(t, m, words+"end:\n# none", program(most, "end=4096"))
	for _, more := range []string{"none", "other", "@ 256", "@", "one", "jump a", "?:", ": a"} {
		if more != "?:" {
			readsNot(t, m, words+more, 4097, api.ErrMany)
			readsNot(t, m, words+"a:\n\n"+more+"\nother\na:\n", 4099, api.ErrMany)
			readsNot(t, m, "a:\n"+words+more, 4098, api.ErrMany)
			continue
		}
		readsNot(t, m, words+more, 4097, api.ErrForm)
	}
	readsNot(t, m, "a:\na:\n"+words+"none", 2, api.ErrTwice)
	readsNot(t, m, "other\n"+words, 1, api.ErrName)
	readsNot(t, m, words+"a:\na:\nnone", 4098, api.ErrTwice)

	var all strings.Builder
	for _, l := range manyLabels(api.MaxLabels, 0) {
		all.WriteString(l.Name + ":\n")
	}
	labels := all.String()
	full := api.AsmProgram{Labels: manyLabels(api.MaxLabels, 0)}
	reads(t, m, labels, full)
	full.Words = []uint64{0, 0x16}
	reads(t, m, labels+"none\njump l10999", full)
	readsNot(t, m, labels+"more:", 1001, api.ErrMany)
	readsNot(t, m, labels+"l10000:", 1001, api.ErrMany)
	readsNot(t, m, labels+"none\n\nl10999:\nother", 1003, api.ErrMany)
	readsNot(t, m, "l10001:\n"+labels, 3, api.ErrTwice)
	readsNot(t, m, "other\n"+labels+"more:", 1, api.ErrName)
	// A label that is one too many is a label all the same.
	readsNot(t, m, "jump more\n"+labels+"more:", 1002, api.ErrMany)
	readsNot(t, m, "jump last\n"+labels+"more:\nlast:\n", 1002, api.ErrMany)
	readsNot(t, m, "jump other\n"+labels+"more:", 1, api.ErrName)
	// Labels and words below those that are too many.
	readsNot(t, m, "jump a\n"+words+"a:", 1, api.ErrRange)
	readsNot(t, m, words+labels+"none\nmore:", 5097, api.ErrMany)
	readsNot(t, m, words+labels+"more:\nnone", 5097, api.ErrMany)
}

// TestP13_2Chance has texts by chance, with few errors, against the definition.
func TestP13_2Chance(t *testing.T) {
	r := newMaker(2)
	met := map[string]int{}
	for i := range 6000 {
		m := r.machine(1 + i%4)
		if i%5 == 0 {
			m = api.Given(i / 5 % 3)
		}
		tokens, _, e := lexer.Tokens(referenceText(m, r.program(m, 8)))
		if e != api.OK {
			t.Fatal(e)
		}
		text := r.loose(r.spoiled(m, tokens))
		if r.IntN(40) == 0 {
			at := r.IntN(len(text) + 1)
			text = text[:at] + "?" + text[at:]
		}
		want, line, e := referenceRead(m, text)
		if e == api.OK {
			reads(t, m, text, want)
		} else {
			readsNot(t, m, text, line, e)
		}
		met[e.Error()]++
		if p, _, _ := assemble.Read(m, text); len(p.Labels) > 1 && len(p.Words) > 2 {
			met["labels"]++
		}
	}
	for _, e := range []error{api.OK, api.ErrForm, api.ErrName, api.ErrRange, api.ErrTwice} {
		if met[e.Error()] < 40 {
			t.Error(met)
		}
	}
	if met["labels"] < 500 {
		t.Error(met)
	}
}
