package lexer_test

import (
	"strings"
	"testing"

	"retarget/api"
	"retarget/lexer"
)

func TestP7_1Examples(t *testing.T) {
	read(t, "add r1, -12 # sum", name("add"), at(4, name("r1")), at(6, mark(",")), at(8, number("-12", -12)))
	read(t, `w: "(add a:8 8:0f)" 0x1f`, name("w"), at(1, mark(":")), at(3, text("(add a:8 8:0f)")), at(20, number("0x1f", 31)))
	for _, s := range []string{"007", "12ab", "-0", "0x01"} {
		wrong(t, s, 0, api.ErrForm)
	}
	wrong(t, "a $ b", 2, api.ErrForm)
}

func TestP7_1NoTokens(t *testing.T) {
	for _, s := range []string{"", " ", "    ", "#", "##", "# a", " # a b \" $", "#\x00\xff\r\t", strings.Repeat(" ", 1000) + "#"} {
		read(t, s)
	}
}

// TestP7_1Places has each token at the beginning, in the middle and at the end of a text, with and without spaces.
func TestP7_1Places(t *testing.T) {
	for _, x := range samples() {
		w := written(x)
		for _, before := range []string{"", " ", "   ", "#r\n"} {
			for _, after := range []string{"", " ", "   ", " # r", "# \"", "\n"} {
				var want []api.LexToken
				if strings.HasSuffix(before, "\n") {
					want = append(want, at(2, line()))
				}
				want = append(want, at(len(before), x))
				if after == "\n" {
					want = append(want, at(len(before+w), line()))
				}
				read(t, before+w+after, want...)
			}
		}
		for _, space := range []string{"", " ", "  "} {
			// A mark or a text between two tokens ends the first one and begins another.
			read(t, "("+space+w+space+")", mark("("), at(1+len(space), x), at(1+2*len(space)+len(w), mark(")")))
			read(t, `"a"`+space+w+space+`"b"`, text("a"), at(3+len(space), x), at(3+2*len(space)+len(w), text("b")))
			read(t, "\n"+space+w+space+"\n", line(), at(1+len(space), x), at(1+2*len(space)+len(w), line()))
		}
	}
}

// TestP7_1Pairs has each two tokens with a space between them, and without one where they are two without it.
func TestP7_1Pairs(t *testing.T) {
	for _, x := range samples() {
		for _, y := range samples() {
			a, b := written(x), written(y)
			read(t, a+" "+b, x, at(len(a)+1, y))
			if !apart(x, y) {
				read(t, a+b, x, at(len(a), y))
			}
		}
	}
	read(t, "a-1", name("a"), at(1, number("-1", -1)))
	read(t, "1-2", number("1", 1), at(1, number("-2", -2)))
	read(t, "-1-2-3", number("-1", -1), at(2, number("-2", -2)), at(4, number("-3", -3)))
	read(t, "0x1f-9", number("0x1f", 31), at(4, number("-9", -9)))
	read(t, `a"b"c`, name("a"), at(1, text("b")), at(4, name("c")))
	read(t, `"a""b"""`, text("a"), at(3, text("b")), at(6, text("")))
	read(t, "a.b=c", name("a"), at(1, mark(".")), at(2, name("b")), at(3, mark("=")), at(4, name("c")))
	wrong(t, "1-0", 1, api.ErrForm)
	wrong(t, "a-b", 1, api.ErrForm)
}

// TestP7_1BytesWhereNoneHasBegun has each byte alone, and between other tokens.
func TestP7_1BytesWhereNoneHasBegun(t *testing.T) {
	for i := range 256 {
		s := string([]byte{byte(i)})
		switch {
		case s == "\n":
			read(t, s, line())
			read(t, "( "+s+" )", mark("("), at(2, line()), at(4, mark(")")))
		case s == " ":
			read(t, s)
			read(t, "( "+s+" )", mark("("), at(4, mark(")")))
		case s == "#":
			read(t, s)
			read(t, "( "+s+" )", mark("("))
		case strings.Contains(letters, s):
			read(t, s, name(s))
			read(t, "( "+s+" )", mark("("), at(2, name(s)), at(4, mark(")")))
		case strings.Contains(digits, s):
			read(t, s, number(s, i-'0'))
			read(t, "( "+s+" )", mark("("), at(2, number(s, i-'0')), at(4, mark(")")))
		case strings.Contains(marks, s):
			read(t, s, mark(s))
			read(t, "( "+s+" )", mark("("), at(2, mark(s)), at(4, mark(")")))
		default:
			wrong(t, s, 0, api.ErrForm)
			wrong(t, s+" a", 0, api.ErrForm)
			wrong(t, "( "+s+" )", 2, api.ErrForm)
			wrong(t, "(\n("+s, 3, api.ErrForm)
			wrong(t, "# "+s+"\n "+s, 5, api.ErrForm)
		}
	}
}

// TestP7_1BytesAfterWords has each byte behind a name and behind numbers.
func TestP7_1BytesAfterWords(t *testing.T) {
	for i := range 256 {
		s := string([]byte{byte(i)})
		continues := strings.Contains(letters+digits+"_", s)
		for _, c := range []struct {
			word  string
			token api.LexToken
		}{{"n9", name("n9")}, {"31", number("31", 31)}, {"-4", number("-4", -4)}, {"0x2", number("0x2", 2)}} {
			if continues {
				continue
			}
			n := len(c.word)
			switch {
			case s == "\n":
				read(t, c.word+s, c.token, at(n, line()))
			case s == " " || s == "#":
				read(t, c.word+s, c.token)
			case strings.Contains(marks, s):
				read(t, c.word+s, c.token, at(n, mark(s)))
			default:
				wrong(t, c.word+s, n, api.ErrForm)
			}
		}
		if !continues {
			continue
		}
		read(t, "n9"+s, name("n9"+s))
		if strings.Contains(digits, s) {
			read(t, "31"+s, number("31"+s, 310+i-'0'))
			read(t, "-4"+s, number("-4"+s, -40-(i-'0')))
		} else {
			wrong(t, " 31"+s, 1, api.ErrForm)
			wrong(t, " -4"+s, 1, api.ErrForm)
			wrong(t, " 31"+s+"1", 1, api.ErrForm)
		}
		if v := strings.Index("0123456789abcdef", s); v >= 0 {
			read(t, "0x2"+s, number("0x2"+s, 32+v))
		} else {
			wrong(t, " 0x2"+s, 1, api.ErrForm)
			wrong(t, " 0x2"+s+"0", 1, api.ErrForm)
		}
	}
}

// TestP7_1BytesInTextsAndRemarks has each byte between quotation marks and in a remark.
func TestP7_1BytesInTextsAndRemarks(t *testing.T) {
	for i := range 256 {
		s := string([]byte{byte(i)})
		if s == `"` {
			read(t, `a "b"  "c"`, name("a"), at(2, text("b")), at(7, text("c")))
			wrong(t, `a "b"c" d`, 6, api.ErrForm)
		} else if i >= 32 && i <= 126 {
			read(t, `"`+s+`"`, text(s))
			read(t, `a "b`+s+`c" d`, name("a"), at(2, text("b"+s+"c")), at(8, name("d")))
		} else {
			wrong(t, `"`+s+`"`, 0, api.ErrForm)
			wrong(t, `a "b`+s+`c" d`, 2, api.ErrForm)
			wrong(t, `a "bc`+s, 2, api.ErrForm)
		}
		if s == "\n" {
			read(t, "a #b"+s+"c", name("a"), at(4, line()), at(5, name("c")))
		} else {
			read(t, "a #b"+s+"c", name("a"))
			read(t, "#"+s+"\nc", at(2, line()), at(3, name("c")))
			read(t, "a #b"+s, name("a"))
		}
	}
}

func TestP7_1Names(t *testing.T) {
	for _, s := range []string{"a", "Z", "a_", "a__", "A9", "a_9_", "x", "x0", "e5", "add", "machine", strings.Repeat("q", 23), strings.Repeat("Q", 24), "a" + strings.Repeat("_", 23), "z" + strings.Repeat("9", 23)} {
		read(t, s, name(s))
		read(t, "  "+s+"\n", at(2, name(s)), at(2+len(s), line()))
	}
	for _, n := range []int{25, 26, 48, 49, 1000, 60000} {
		wrong(t, strings.Repeat("a", n), 0, api.ErrForm)
		wrong(t, ", a"+strings.Repeat("_", n-1)+" b", 2, api.ErrForm)
		wrong(t, ", A"+strings.Repeat("7", n-1)+",", 2, api.ErrForm)
	}
	for _, s := range []string{"_", "_a", "__"} {
		wrong(t, "a "+s, 2, api.ErrForm)
	}
}

func TestP7_1Numbers(t *testing.T) {
	for _, c := range []struct {
		s string
		n int
	}{
		{"0", 0}, {"1", 1}, {"9", 9}, {"10", 10}, {"100", 100}, {"-1", -1}, {"-9", -9}, {"-10", -10}, {"-100", -100}, {"2147483648", 1 << 31}, {"-2147483649", -1<<31 - 1}, {"4294967296", 1 << 32},
		{"99999999999999999", 99999999999999999}, {"-99999999999999999", -99999999999999999}, {"100000000000000000", 100000000000000000}, {"-100000000000000000", -100000000000000000}, {"999999999999999999", 999999999999999999}, {"-999999999999999999", -999999999999999999}, {"123456789012345678", 123456789012345678},
		{"0x0", 0}, {"0x1", 1}, {"0x9", 9}, {"0xa", 10}, {"0xf", 15}, {"0x10", 16}, {"0xdeadbeef", 0xdeadbeef}, {"0x10000000000000", 1 << 52}, {"0xffffffffffffff", 1<<56 - 1}, {"0x100000000000000", 1 << 56}, {"0xfffffffffffffff", 1<<60 - 1}, {"0x123456789abcdef", 0x123456789abcdef}, {"0xe5", 0xe5}, {"0xb1", 0xb1},
	} {
		read(t, c.s, number(c.s, c.n))
		read(t, "a "+c.s+",", name("a"), at(2, number(c.s, c.n)), at(2+len(c.s), mark(",")))
	}
}

func TestP7_1NoNumbers(t *testing.T) {
	for _, s := range []string{
		"00", "01", "007", "000000000000000000", "0000000000000000001", "0_", "0a", "0X1f", "0b1", "0o7", "0x", "0x_", "0x_1", "0xg", "0x1g", "0x00", "0x01", "0x000000000000001", "0x000000000000000", "0x0f", "0x0_", "0xA", "0xF", "0x1A", "0xaB", "0x1F", "0x1_0", "0x0x1", "00x1",
		"1000000000000000000", "9999999999999999999", "9223372036854775807", "9223372036854775808", "18446744073709551615", "18446744073709551616", "18446744073709551617", "0x1000000000000000", "0xffffffffffffffff", "0x7fffffffffffffff", "0x10000000000000000", "0x10000000000000001",
		"12ab", "1a", "1e5", "1_000", "1_", "12_", "1x", "1x2", "9Z", "10h",
		"-1000000000000000000", "-9999999999999999999", "-9223372036854775808", "-9223372036854775809", "-18446744073709551615", "-1a", "-1_", "-1e5", "-1x2", "-12ab", "-9Z",
		strings.Repeat("1", 60000), "-" + strings.Repeat("1", 60000), "0x" + strings.Repeat("1", 60000), strings.Repeat("0", 60000), "0x" + strings.Repeat("0", 60000),
		// A - with no digit from 1 to 9 behind it begins nothing.
		"-", "--", "--1", "-0", "-00", "-01", "-0x1", "-0x1f", "-0xf", "-a", "-_", "-_1", "-,", "- 1", "-\n1", "-#1", "-\"1\"", "-+1", "-(1", "-\x00", "-\xff", "-１",
	} {
		wrong(t, s, 0, api.ErrForm)
		wrong(t, "a, "+s, 3, api.ErrForm)
		wrong(t, "a, "+s+" b", 3, api.ErrForm)
	}
	wrong(t, "+1 -", 3, api.ErrForm)
	wrong(t, "1-", 1, api.ErrForm)
	read(t, "+1", mark("+"), at(1, number("1", 1)))
	read(t, "1.5", number("1", 1), at(1, mark(".")), at(2, number("5", 5)))
}

func TestP7_1Texts(t *testing.T) {
	var all strings.Builder
	for c := 32; c <= 126; c++ {
		if c != '"' {
			all.WriteByte(byte(c))
		}
	}
	for _, s := range []string{"", " ", "  ", "a", "a b", "#", "# a", "\\", "\\n", "'", "~", "!", "007", "-", strings.Repeat("x", 25), strings.Repeat("long ", 6000), all.String()} {
		read(t, `"`+s+`"`, text(s))
		read(t, `a"`+s+`"# r`, name("a"), at(1, text(s)))
		read(t, `"`+s+"\" \n", text(s), at(len(s)+3, line()))
		wrong(t, `a "`+s, 2, api.ErrForm)
		wrong(t, `a "`+s+"\n", 2, api.ErrForm)
		wrong(t, `a "`+s+"\n\"", 2, api.ErrForm)
		wrong(t, `a "`+s+"\n# \" b", 2, api.ErrForm)
		wrong(t, `"`+s+`" b "`+s, len(s)+5, api.ErrForm)
	}
	for _, s := range []string{"é", "\x1f", "\x7f", "\x00", "\t", "\r", "\r\n", "\x80", "\xff", "\xa0", "a\nb", "a\tb", "\u00a0", "\u2028"} {
		wrong(t, ` "`+s+`"`, 1, api.ErrForm)
		wrong(t, ` "a`+s+`b" "c"`, 1, api.ErrForm)
	}
}

func TestP7_1Remarks(t *testing.T) {
	read(t, "a # b\n c", name("a"), at(5, line()), at(7, name("c")))
	read(t, "a#b", name("a"))
	read(t, "1#2", number("1", 1))
	read(t, "(#)\n)", mark("("), at(3, line()), at(4, mark(")")))
	read(t, "#\n#\n", at(1, line()), at(3, line()))
	read(t, "# # #\n# \"\n\"#\" # \"#\"", at(5, line()), at(9, line()), at(10, text("#")))
	read(t, "# $ 007 \"\r\x00\xff\na", at(12, line()), at(13, name("a")))
	read(t, "a # $", name("a"))
	read(t, `"a # b" # c`, text("a # b"))
	read(t, `"#"#"`, text("#"))
	wrong(t, "# \"\n\"", 4, api.ErrForm)
	wrong(t, "#\n$", 2, api.ErrForm)
	wrong(t, "# a\r\n\r", 5, api.ErrForm)
}

func TestP7_1FirstError(t *testing.T) {
	for _, c := range []struct {
		s  string
		at int
	}{
		{"$ $", 0}, {"a $ 007", 2}, {"a 007 $", 2}, {"007$", 0}, {"a 12ab \"", 2}, {"a \" 12ab $", 2}, {"\"\n\" $", 0}, {"a \"b\" \"c", 6}, {"a\n b\n  $\n 007", 7},
		{strings.Repeat("a", 25) + " $", 0}, {"ok " + strings.Repeat("a", 25) + "$", 3}, {"-0 -0", 0}, {"a -0 0x", 2}, {"# $\n 0x -", 5}, {"\"$\" - $", 4}, {"a\t\"", 1}, {"\t", 0}, {"a\r\nb", 1}, {"\xef\xbb\xbfa", 0}, {"é", 0}, {"aé", 1}, {"a;b", 1},
	} {
		wrong(t, c.s, c.at, api.ErrForm)
	}
}

func TestP7_1TooManyBytes(t *testing.T) {
	spaces := strings.Repeat(" ", api.MaxText)
	read(t, spaces)
	read(t, spaces[1:]+",", at(api.MaxText-1, mark(",")))
	read(t, "#"+spaces[1:])
	read(t, `"`+spaces[2:]+`"`, text(spaces[2:]))
	wrong(t, spaces[1:]+"$", api.MaxText-1, api.ErrForm)
	for _, s := range []string{spaces + " ", spaces + ",", spaces + "$", "$" + spaces, "#" + spaces, `"` + spaces + `"`, strings.Repeat("$", api.MaxText+1), strings.Repeat(",", api.MaxText+1), strings.Repeat("\n", api.MaxText+1), strings.Repeat("a", api.MaxText+1), spaces + spaces + spaces} {
		wrong(t, s, 0, api.ErrMany)
	}
}

func TestP7_1TooManyTokens(t *testing.T) {
	for _, one := range []string{",", "\n", "a ", "1 ", "-1 ", `""`} {
		full := strings.Repeat(one, api.MaxTokens)
		for _, end := range []string{"", "  ", "# ,", " # ,"} {
			if l, at, e := lexer.Tokens(full + end); len(l) != api.MaxTokens || at != 0 || e != api.OK {
				t.Errorf("%q: %d %d %d", one+end, len(l), at, e)
			}
		}
		for _, more := range []string{",", "\n", "a", "7", "-7", `"b"`, "a $", ", \"", "a 007", ",,,,"} {
			wrong(t, full+more, len(full), api.ErrMany)
			wrong(t, full+"  "+more, len(full)+2, api.ErrMany)
			wrong(t, full+full[:20]+"  "+more, len(full), api.ErrMany)
		}
		// What has not its form is no token too many, and the first place decides.
		for _, more := range []string{"$", "007", "-", "\"", strings.Repeat("a", 25), "$ a", "\x00"} {
			wrong(t, full+" "+more, len(full)+1, api.ErrForm)
			wrong(t, "$"+full+" "+more, 0, api.ErrForm)
			wrong(t, full+", "+more, len(full), api.ErrMany)
		}
		wrong(t, full[len(one):]+"$ ,,", len(full)-len(one), api.ErrForm)
		wrong(t, "- "+full+",", 0, api.ErrForm)
	}
	wrong(t, strings.Repeat("a\n", api.MaxTokens/2)+"# r\n,", api.MaxTokens+3, api.ErrMany)
}

// alphabet has bytes of each class.
const alphabet = "ax_FZ019- #\"\n,(.$\t\x80"

// TestP7_1ShortTexts has all texts of up to four of these bytes.
func TestP7_1ShortTexts(t *testing.T) {
	good := 0
	var add func(s string, more int)
	add = func(s string, more int) {
		if sameAsReference(t, s) {
			good++
		}
		for i := 0; more > 0 && i < len(alphabet); i++ {
			add(s+alphabet[i:i+1], more-1)
		}
	}
	add("", 4)
	if good < 30000 {
		t.Error(good)
	}
}

// TestP7_1TextsByChance has texts of parts that go together, and of bytes.
func TestP7_1TextsByChance(t *testing.T) {
	m := newMaker(1)
	parts := []string{"a", "x", "_", "0", "0x", "1", "-", "-1", "f", "F", " ", "\n", "#", "\"", "\" \"", ",", ":", "9999999999", "aaaaaaaaaaaa", "$", "\xff", "00000000"}
	good := 0
	for range 100000 {
		s := ""
		for range m.IntN(10) {
			s += pick(m, parts)
		}
		if m.IntN(10) == 0 {
			s += string([]byte{byte(m.IntN(256))})
		}
		if sameAsReference(t, s) {
			good++
		}
	}
	if good < 20000 {
		t.Error(good)
	}
}
