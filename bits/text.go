package bits

import (
	"strconv"
	"strings"

	"retarget/api"
)

const hexDigits = "0123456789abcdef"

// Text returns the text of a bit vector: its width, a colon, and a digit for each four bits of its value.
func Text(width int, x uint64) (string, api.Errno) {
	if e := check(width, nil, x); e != api.OK {
		return "", e
	}
	many := (width + 3) / 4
	digits := make([]byte, many)
	for i := range many {
		digits[many-1-i] = hexDigits[x>>(4*i)&15]
	}
	return strconv.Itoa(width) + ":" + string(digits), api.OK
}

// Parse returns the bit vector with the text s.
func Parse(s string) (width int, x uint64, e api.Errno) {
	head, digits, _ := strings.Cut(s, ":")
	width, noWidth := strconv.Atoi(head)
	x, noValue := strconv.ParseUint(digits, 16, 64)
	if noWidth != nil || noValue != nil {
		return 0, 0, api.ErrForm
	}
	// strconv accepts more than the one form of a text: signs, zeros in front, capital letters.
	if text, e := Text(width, x); e != api.OK || text != s {
		return 0, 0, api.ErrForm
	}
	return width, x, api.OK
}
