package term

import (
	"strconv"
	"strings"

	"retarget/api"
	"retarget/bits"
)

// Text returns the text of t.
func Text(t api.Term) (string, api.Errno) {
	if e := Check(t); e != api.OK {
		return "", e
	}
	var out strings.Builder
	write(&out, t)
	return out.String(), api.OK
}

// write writes the text of a valid term.
func write(out *strings.Builder, t api.Term) {
	switch t.Kind {
	case api.TermConst:
		text, _ := bits.Text(t.Width, t.Bits)
		out.WriteString(text)
		return
	case api.TermVar:
		out.WriteString(t.Name + ":" + strconv.Itoa(t.Width))
		return
	}
	out.WriteString("(" + shapes[t.Kind].word)
	if hasLow(t.Kind) {
		out.WriteString(" " + strconv.Itoa(t.Low))
	}
	if hasWidth(t.Kind) {
		out.WriteString(" " + strconv.Itoa(t.Width))
	}
	for _, part := range t.Sub {
		out.WriteString(" ")
		write(out, part)
	}
	out.WriteString(")")
}

// hasLow reports whether Low is written in the texts of terms of a kind with parts.
func hasLow(kind uint8) bool { return kind == api.TermExtract }

// hasWidth reports whether Width is written there; otherwise it follows from the parts.
func hasWidth(kind uint8) bool { return api.TermExtract <= kind && kind <= api.TermLoad }

// Parse returns the valid term with the text s.
func Parse(s string) (t api.Term, e api.Errno) {
	defer func() {
		if recover() != nil {
			t, e = api.Term{}, api.ErrForm
		}
	}()
	r := reader{rest: s, left: api.MaxNodes}
	t = r.term(1)
	// A term that was read may not be valid, and its text may be another: strconv reads more than the one form of a number, and something may follow in s.
	text, wrong := Text(t)
	r.must(wrong == api.OK && text == s)
	return t, api.OK
}

// A reader reads a term from the beginning of rest, and leaves by a panic where there is none. It stops after left nodes and at too great a depth, so that a text of any length is read with little memory.
type reader struct {
	rest string
	left int
}

func (r *reader) must(is bool) {
	if !is {
		panic(api.ErrForm)
	}
}

func (r *reader) term(depth int) api.Term {
	r.left--
	r.must(r.left >= 0 && depth <= api.MaxDepth)
	if !strings.HasPrefix(r.rest, "(") {
		return r.leaf()
	}
	r.sign("(")
	t := api.Term{Kind: r.kind()}
	if hasLow(t.Kind) {
		t.Low = r.number()
	}
	if hasWidth(t.Kind) {
		t.Width = r.number()
	}
	for range shapes[t.Kind].parts {
		r.sign(" ")
		t.Sub = append(t.Sub, r.term(depth+1))
	}
	r.sign(")")
	if !hasWidth(t.Kind) {
		t.Width = follows(t.Kind, t.Sub)
	}
	return t
}

// follows returns the width of a term of this kind with these parts.
func follows(kind uint8, parts []api.Term) int {
	switch kind {
	case api.TermEq, api.TermUlt, api.TermSlt:
		return 1
	case api.TermIte:
		return parts[1].Width
	case api.TermConcat:
		return parts[0].Width + parts[1].Width
	}
	return parts[0].Width
}

// leaf reads a TermConst or a TermVar.
func (r *reader) leaf() api.Term {
	s := r.token()
	if width, x, e := bits.Parse(s); e == api.OK {
		return api.Term{Kind: api.TermConst, Width: width, Bits: x}
	}
	name, width, _ := strings.Cut(s, ":")
	return api.Term{Kind: api.TermVar, Width: r.decimal(width), Name: name}
}

// kind reads a word. Only kinds with parts have one.
func (r *reader) kind() uint8 {
	word := r.token()
	for kind := api.TermNot; kind <= api.TermLoad; kind++ {
		if shapes[kind].word == word {
			return kind
		}
	}
	panic(api.ErrForm)
}

func (r *reader) number() int {
	r.sign(" ")
	return r.decimal(r.token())
}

func (r *reader) decimal(s string) int {
	n, wrong := strconv.Atoi(s)
	r.must(wrong == nil)
	return n
}

// token reads what comes before the next space or parenthesis.
func (r *reader) token() string {
	end := strings.IndexAny(r.rest, " ()")
	if end < 0 {
		end = len(r.rest)
	}
	token := r.rest[:end]
	r.rest = r.rest[end:]
	return token
}

func (r *reader) sign(s string) {
	rest, there := strings.CutPrefix(r.rest, s)
	r.must(there)
	r.rest = rest
}
