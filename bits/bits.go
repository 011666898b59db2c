// Package bits is layer 1: bit vectors of 1 to 64 bits, as shared/doc/01-bits.md specifies them.
package bits

import "retarget/api"

// Name reports whether s is a name: a letter, followed by letters, digits and _, at most api.MaxName bytes in all.
func Name(s string) bool {
	if len(s) < 1 || len(s) > api.MaxName || !isLetter(s[0]) {
		return false
	}
	for i := range len(s) {
		if c := s[i]; !isLetter(c) && !isDigit(c) && c != '_' {
			return false
		}
	}
	return true
}

func isLetter(c byte) bool { return 'a' <= c && c <= 'z' || 'A' <= c && c <= 'Z' }

func isDigit(c byte) bool { return '0' <= c && c <= '9' }

// Ok reports whether width is one and x is a value of it.
func Ok(width int, x uint64) bool { return isWidth(width) && x <= Mask(width) }

// Mask returns the greatest value of the width, or 0 if width is none.
func Mask(width int) uint64 {
	if !isWidth(width) {
		return 0
	}
	return 1<<width - 1
}

func isWidth(width int) bool { return 1 <= width && width <= api.MaxWidth }

// check returns ErrWidth unless width is one; then what the closure first says, if there is one; and then ErrBad unless all of xs are values of the width.
func check(width int, first func() api.Errno, xs ...uint64) api.Errno {
	if !isWidth(width) {
		return api.ErrWidth
	}
	if first != nil {
		if e := first(); e != api.OK {
			return e
		}
	}
	for _, x := range xs {
		if !Ok(width, x) {
			return api.ErrBad
		}
	}
	return api.OK
}

// Signed returns the signed value of a bit vector.
func Signed(width int, x uint64) (int64, api.Errno) {
	if e := check(width, nil, x); e != api.OK {
		return 0, e
	}
	return signed(width, x), api.OK
}

// signed moves the sign bit to the top, so that shifting back copies it.
func signed(width int, x uint64) int64 {
	above := api.MaxWidth - width
	return int64(x<<above) >> above
}

// Of returns the value of the width with the signed value n.
func Of(width int, n int64) (uint64, api.Errno) {
	if e := check(width, nil); e != api.OK {
		return 0, e
	}
	x := uint64(n) & Mask(width)
	if signed(width, x) != n {
		return 0, api.ErrRange
	}
	return x, api.OK
}

// Extract returns the bits from low to low + many - 1 of x as a number.
func Extract(width int, x uint64, low, many int) (uint64, api.Errno) {
	if e := check(width, nil, x); e != api.OK {
		return 0, e
	}
	// The sum of low and many might wrap around; a difference from the width cannot.
	if low < 0 || many < 1 || many > width-low {
		return 0, api.ErrArg
	}
	return x >> low & Mask(many), api.OK
}

// Concat returns the bit vector of high + low bits with a above b.
func Concat(high int, a uint64, low int, b uint64) (uint64, api.Errno) {
	lowToo := func() api.Errno {
		if !isWidth(low) || !isWidth(high+low) {
			return api.ErrWidth
		}
		return api.OK
	}
	if e := check(high, lowToo, a); e != api.OK {
		return 0, e
	}
	if !Ok(low, b) {
		return 0, api.ErrBad
	}
	return a<<low | b, api.OK
}

// Extend returns x in the width to, with zeros above, or with copies of its sign bit.
func Extend(width int, x uint64, to int, sign bool) (uint64, api.Errno) {
	wider := func() api.Errno {
		if to < width || !isWidth(to) {
			return api.ErrWidth
		}
		return api.OK
	}
	if e := check(width, wider, x); e != api.OK {
		return 0, e
	}
	if sign {
		return uint64(signed(width, x)) & Mask(to), api.OK
	}
	return x, api.OK
}
