package assemble

import (
	"iter"
	"slices"

	"retarget/api"
	"retarget/bits"
	"retarget/encode"
)

// A line is one that is not empty: its number, the number of words above it, and its tokens.
type line struct {
	number, index int
	tokens        []api.LexToken
}

// told yields the lines that are not empty, from the first one on.
func told(lines [][]api.LexToken) iter.Seq[line] {
	return func(yield func(line) bool) {
		words := 0
		for i, tokens := range lines {
			if len(tokens) == 0 {
				continue
			}
			l := line{i + 1, words, tokens}
			if !yield(l) {
				return
			}
			if !l.isLabel() {
				words++
			}
		}
	}
}

func (l line) isLabel() bool {
	return len(l.tokens) == 2 && l.tokens[0].Kind == api.TokenName && isMark(l.tokens[1], ":")
}

// label returns the label that a line is.
func (l line) label() api.AsmLabel { return api.AsmLabel{Name: l.tokens[0].Text, At: l.index} }

// isMark looks at the kind too, because a text in quotation marks is no mark.
func isMark(t api.LexToken, mark string) bool { return t.Kind == api.TokenMark && t.Text == mark }

// labelsIn returns all labels of a text from the first one on, also those that are too many.
func labelsIn(lines [][]api.LexToken) []api.AsmLabel {
	var labels []api.AsmLabel
	collect := func(l line) { labels = append(labels, l.label()) }
	for l := range told(lines) {
		if l.isLabel() {
			collect(l)
		}
	}
	return labels
}

// A reader adds the labels and words of a text to a program, line by line. It knows the labels below as well.
type reader struct {
	*scope
	api.AsmProgram
}

// read adds a line, or returns its error.
func (r *reader) read(l line) api.Errno {
	if l.isLabel() {
		return r.addLabel(l.label())
	}
	return r.addWord(l)
}

func (r *reader) addLabel(label api.AsmLabel) api.Errno {
	if len(r.Labels) == api.MaxLabels {
		return api.ErrMany
	}
	if slices.ContainsFunc(r.Labels, func(above api.AsmLabel) bool { return above.Name == label.Name }) {
		return api.ErrTwice
	}
	r.Labels = append(r.Labels, label)
	return api.OK
}

func (r *reader) addWord(l line) api.Errno {
	if l.index == api.MaxWords {
		return api.ErrMany
	}
	word, e := r.word(l)
	if e != api.OK {
		return e
	}
	r.Words = append(r.Words, word)
	return api.OK
}

// word returns the word that a line stands for.
func (r *reader) word(l line) (uint64, api.Errno) {
	if isMark(l.tokens[0], "@") {
		return r.plain(l.tokens[1:])
	}
	op, e := r.op(l)
	if e != api.OK {
		return 0, e
	}
	return encode.Encode(r.Machine, op)
}

// plain returns the word that is written as a number.
func (r *reader) plain(tokens []api.LexToken) (uint64, api.Errno) {
	number := first(tokens)
	switch {
	case number.Kind != api.TokenNumber:
		return 0, api.ErrForm
	case !bits.Ok(8*r.Word, uint64(number.Number)):
		return 0, api.ErrRange
	case len(tokens) > 1:
		return 0, api.ErrForm
	}
	return uint64(number.Number), api.OK
}

// op returns the op that a line stands for.
func (r *reader) op(l line) (api.MachOp, api.Errno) {
	instr, e := r.instr(l.tokens[0])
	if e != api.OK {
		return api.MachOp{}, e
	}
	op, rest := api.MachOp{Instr: instr}, l.tokens[1:]
	for i, o := range r.Instrs[instr].Operands {
		if o.Tied != -1 {
			op.Args = append(op.Args, op.Args[o.Tied])
			continue
		}
		if i > 0 {
			if !isMark(first(rest), ",") {
				return api.MachOp{}, api.ErrForm
			}
			rest = rest[1:]
		}
		arg, e := r.forms[o.Kind].read(o, first(rest), l.index)
		if e != api.OK {
			return api.MachOp{}, e
		}
		op.Args, rest = append(op.Args, arg), rest[1:]
	}
	if len(rest) > 0 {
		return api.MachOp{}, api.ErrForm
	}
	return op, api.OK
}

// instr returns the index of the instruction that a token names.
func (r *reader) instr(t api.LexToken) (int, api.Errno) {
	if t.Kind != api.TokenName {
		return 0, api.ErrForm
	}
	at := slices.IndexFunc(r.Instrs, func(i api.MachInstr) bool { return i.Name == t.Text })
	if at < 0 {
		return 0, api.ErrName
	}
	return at, api.OK
}

// first returns the first one of the tokens, or one of no kind if there is none.
func first(tokens []api.LexToken) api.LexToken {
	if len(tokens) == 0 {
		return api.LexToken{}
	}
	return tokens[0]
}
