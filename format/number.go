package format

import (
	"retarget/api"
	"retarget/bits"
)

// maxField is the greatest width of a field that numbers are in.
const maxField = 32

// Range returns the least and the greatest number in a field.
func Range(kind uint8, width, scale int) (low, high int, e api.Errno) {
	if e := checkKind(kind, width, scale); e != api.OK {
		return 0, 0, e
	}
	least, most := span(kind, width)
	return least << scale, most << scale, api.OK
}

// checkKind returns ErrArg unless there are fields of this kind, width and scale.
func checkKind(kind uint8, width, scale int) api.Errno {
	return need(api.ErrArg, isSigned(kind) || kind == api.OperandUnsigned, isIn(width, 1, maxField), isIn(scale, 0, api.MaxScale))
}

func isSigned(kind uint8) bool { return kind == api.OperandSigned || kind == api.OperandJump }

// span returns the least and the greatest integer that a field of the width stands for, before it is scaled.
func span(kind uint8, width int) (least, most int) {
	if isSigned(kind) {
		return -1 << (width - 1), 1<<(width-1) - 1
	}
	return 0, 1<<width - 1
}

// Field returns the field of a number.
func Field(kind uint8, width, scale, n int) (uint64, api.Errno) {
	if e := checkKind(kind, width, scale); e != api.OK {
		return 0, e
	}
	if e := need(api.ErrRange, isNumber(kind, width, scale, n)); e != api.OK {
		return 0, e
	}
	return uint64(n>>scale) & bits.Mask(width), api.OK
}

// isNumber reports whether n is in the field.
func isNumber(kind uint8, width, scale, n int) bool {
	least, most := span(kind, width)
	k := n >> scale
	return k<<scale == n && isIn(k, least, most)
}

// Number returns the number of a field.
func Number(kind uint8, width, scale int, field uint64) (int, api.Errno) {
	if e := checkKind(kind, width, scale); e != api.OK {
		return 0, e
	}
	if e := need(api.ErrRange, bits.Ok(width, field)); e != api.OK {
		return 0, e
	}
	k := int64(field)
	if isSigned(kind) {
		// The field is one of the width, so that there is no error.
		k, _ = bits.Signed(width, field)
	}
	return int(k) << scale, api.OK
}

// Fit returns the least width of a field that n is in.
func Fit(kind uint8, scale, n int) (int, api.Errno) {
	if e := checkKind(kind, maxField, scale); e != api.OK {
		return 0, e
	}
	for width := 1; width <= maxField; width++ {
		if isNumber(kind, width, scale, n) {
			return width, api.OK
		}
	}
	return 0, api.ErrRange
}
