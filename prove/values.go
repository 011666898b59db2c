package prove

import (
	"iter"
	"slices"

	"retarget/api"
	"retarget/bits"
	"retarget/term"
)

// samples is the number of bindings that are tried if there are too many to try them all.
const samples = 64

// tried returns AnswerNo and the first of the bindings for which the value of t is 0, or else the answer.
func tried(t api.Term, envs iter.Seq[[]api.Binding], answer uint8) api.Verdict {
	v := api.Verdict{Answer: answer}
	envs(func(env []api.Binding) bool {
		value, _ := term.Value(t, env, nil)
		if value == 0 {
			v = api.Verdict{Answer: api.AnswerNo, Example: slices.Clone(env)}
		}
		return value != 0
	})
	return v
}

// widthOf returns the bits of the variables.
func widthOf(vars []api.Binding) int {
	sum := 0
	for _, v := range vars {
		sum += v.Width
	}
	return sum
}

// every yields all bindings of variables that have few bits, each time in the same list.
func every(vars []api.Binding) iter.Seq[[]api.Binding] {
	return func(yield func([]api.Binding) bool) {
		env := slices.Clone(vars)
		for n := range uint64(1) << widthOf(vars) {
			rest := n
			for i, v := range vars {
				env[i].Bits = rest & bits.Mask(v.Width)
				rest >>= v.Width
			}
			if !yield(env) {
				return
			}
		}
	}
}

// some yields a few bindings of the variables, always the same ones, each time in the same list. About half of the values are those at which operations are special.
func some(vars []api.Binding) iter.Seq[[]api.Binding] {
	return func(yield func([]api.Binding) bool) {
		env, state := slices.Clone(vars), uint64(1)
		// Of the state only the upper bits are mixed well.
		mixed := func(width int) uint64 {
			state = state*6364136223846793005 + 1442695040888963407
			return state >> (64 - width)
		}
		for range samples {
			for i, v := range vars {
				most := bits.Mask(v.Width)
				env[i].Bits = mixed(v.Width)
				if special := [...]uint64{0, 1, most, most>>1 + 1}; mixed(1) == 1 {
					env[i].Bits = special[mixed(2)]
				}
			}
			if !yield(env) {
				return
			}
		}
	}
}
