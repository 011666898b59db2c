package format_test

import (
	"math"
	"slices"
	"testing"

	"retarget/api"
	"retarget/format"
)

func TestP9_1Check(t *testing.T) {
	for _, c := range []struct {
		size   int
		pieces []api.MachPiece
		e      api.Errno
	}{
		{1, nil, api.OK}, {64, []api.MachPiece{}, api.OK}, {1, layout(0, 1), api.OK}, {64, layout(0, 64), api.OK}, {64, layout(63, 1), api.OK}, {64, layout(1, 63, 0, 1), api.OK},
		{32, layout(8, 7, 0, 8), api.OK}, {16, layout(4, 4, 12, 2, 0, 1), api.OK}, {4, layout(3, 1, 0, 1, 2, 1, 1, 1), api.OK}, {9, layout(4, 2, 6, 3, 1, 3), api.OK},
		{0, nil, api.ErrArg}, {-1, nil, api.ErrArg}, {65, nil, api.ErrArg}, {math.MinInt, nil, api.ErrArg}, {math.MaxInt, layout(0, 1), api.ErrArg}, {1<<32 + 8, layout(0, 1), api.ErrArg},
		{64, make([]api.MachPiece, 5), api.ErrMany}, {8, layout(0, 1, 1, 1, 2, 1, 3, 1, 4, 1), api.ErrMany}, {8, layout(0, 0, 0, 0, 0, 0, 0, 0, 0, 0, 0, 0), api.ErrMany},
		{0, make([]api.MachPiece, 5), api.ErrArg}, {65, layout(-1, -1), api.ErrArg}, {65, layout(0, 65), api.ErrArg},
		{8, layout(0, 0), api.ErrBad}, {8, layout(0, -1), api.ErrBad}, {8, layout(4, -4), api.ErrBad}, {8, layout(8, 0), api.ErrBad}, {8, layout(0, math.MinInt), api.ErrBad},
		{8, layout(-1, 1), api.ErrBad}, {8, layout(-1, 2), api.ErrBad}, {8, layout(-8, 8), api.ErrBad}, {8, layout(math.MinInt, 1), api.ErrBad},
		{8, layout(0, 9), api.ErrBad}, {8, layout(8, 1), api.ErrBad}, {8, layout(7, 2), api.ErrBad}, {8, layout(1, 8), api.ErrBad}, {64, layout(1, 64), api.ErrBad}, {64, layout(64, 1), api.ErrBad}, {64, layout(0, 65), api.ErrBad},
		{12, layout(4, 4, 12, 2, 0, 1), api.ErrBad}, {13, layout(4, 4, 12, 2, 0, 1), api.ErrBad}, {14, layout(4, 4, 12, 2, 0, 1), api.OK},
		{64, layout(math.MaxInt, 1), api.ErrBad}, {64, layout(1, math.MaxInt), api.ErrBad}, {64, layout(math.MaxInt, math.MaxInt), api.ErrBad}, {64, layout(math.MinInt, math.MinInt), api.ErrBad}, {64, layout(math.MaxInt, math.MinInt), api.ErrBad}, {64, layout(math.MinInt, math.MaxInt), api.ErrBad},
		{8, layout(0, 1, 0, 1), api.ErrBad}, {8, layout(0, 8, 0, 8), api.ErrBad}, {8, layout(0, 4, 3, 2), api.ErrBad}, {8, layout(3, 2, 0, 4), api.ErrBad}, {8, layout(0, 8, 4, 1), api.ErrBad}, {8, layout(4, 1, 0, 8), api.ErrBad},
		{8, layout(0, 1, 1, 1, 2, 1, 0, 1), api.ErrBad}, {8, layout(0, 1, 1, 1, 2, 1, 2, 1), api.ErrBad}, {8, layout(0, 1, 1, 1, 2, 1, 3, 6), api.ErrBad}, {8, layout(0, 1, 1, 1, 2, 1, 3, 0), api.ErrBad}, {64, layout(63, 1, 0, 64), api.ErrBad},
	} {
		if e := format.Check(c.size, c.pieces); e != c.e {
			t.Errorf("%d %v: %d, not %d", c.size, c.pieces, e, c.e)
		}
		if mask, e := format.Mask(c.size, c.pieces); e != c.e || e != api.OK && mask != 0 {
			t.Errorf("mask of %d %v: %x %d, not %d", c.size, c.pieces, mask, e, c.e)
		}
	}
}

func TestP9_1Mask(t *testing.T) {
	for _, c := range []struct {
		size   int
		pieces []api.MachPiece
		mask   uint64
	}{
		{1, nil, 0}, {64, nil, 0}, {1, layout(0, 1), 1}, {64, layout(0, 64), math.MaxUint64}, {64, layout(63, 1), 1 << 63}, {64, layout(32, 32, 0, 32), math.MaxUint64}, {64, layout(1, 62), 0x7ffffffffffffffe},
		{32, layout(8, 7, 0, 8), 0x7fff}, {16, layout(4, 4, 12, 2, 0, 1), 0x30f1}, {8, layout(7, 1, 5, 1, 3, 1, 1, 1), 0xaa}, {8, layout(2, 3), 0x1c}, {64, layout(2, 3), 0x1c},
	} {
		mask, e := format.Mask(c.size, c.pieces)
		is(t, c, mask, e, c.mask, api.OK)
	}
}

// piecesNear returns all pieces with numbers from -1 to one above the size.
func piecesNear(size int) []api.MachPiece {
	var l []api.MachPiece
	for at := -1; at <= size+1; at++ {
		for many := -1; many <= size+1; many++ {
			l = append(l, api.MachPiece{At: at, Len: many})
		}
	}
	return l
}

// TestP9_1AllPairs holds all layouts of up to two pieces for small words against the chapter, and of the valid ones all words and fields.
func TestP9_1AllPairs(t *testing.T) {
	for size := -1; size <= 4; size++ {
		all := piecesNear(size)
		layouts := [][]api.MachPiece{nil}
		for _, p := range all {
			layouts = append(layouts, []api.MachPiece{p})
			for _, q := range all {
				layouts = append(layouts, []api.MachPiece{p, q})
			}
		}
		for _, l := range layouts {
			if wrong(size, l) != api.OK {
				agrees(t, size, 0, l, 0)
				continue
			}
			for word := range uint64(2)<<size + 1 {
				for field := range uint64(2)<<size + 1 {
					agrees(t, size, word, l, field)
				}
			}
		}
	}
}

func TestP9_1AllTriples(t *testing.T) {
	const size = 3
	all := piecesNear(size)
	for _, p := range all {
		for _, q := range all {
			for _, r := range all {
				agrees(t, size, 5, []api.MachPiece{p, q, r}, 3)
			}
		}
	}
}

func TestP9_1AlmostValid(t *testing.T) {
	r := newRandom(1)
	for range 30000 {
		size := 1 + r.IntN(64)
		l := r.layout(size, 4)
		if len(l) > 0 {
			p := &l[r.IntN(len(l))]
			switch r.IntN(4) {
			case 0:
				p.At += r.IntN(5) - 2
			case 1:
				p.Len += r.IntN(5) - 2
			case 2:
				p.At = extremes[r.IntN(len(extremes))]
			case 3:
				p.Len = extremes[r.IntN(len(extremes))]
			}
		}
		agrees(t, size, r.below(size), l, r.below(r.IntN(65)))
		agrees(t, extremes[r.IntN(len(extremes))], r.below(size), l, 0)
	}
}

func TestP9_2Examples(t *testing.T) {
	for _, c := range []struct {
		size   int
		word   uint64
		pieces []api.MachPiece
		field  uint64
	}{
		{32, 0x1234, layout(8, 7, 0, 8), 0x1a12}, {8, 0x31, layout(4, 2, 0, 1), 7}, {32, 0x31, layout(4, 2, 0, 1), 7},
		{16, 0xabcd, layout(0, 16), 0xabcd}, {16, 0xabcd, layout(8, 8, 0, 8), 0xcdab}, {16, 0xabcd, layout(12, 4, 8, 4, 4, 4, 0, 4), 0xdcba}, {16, 0xabcd, layout(4, 8), 0xbc}, {16, 0xabcd, layout(15, 1), 1}, {16, 0xabcd, layout(14, 1), 0},
		{16, 0xffff, nil, 0}, {64, math.MaxUint64, nil, 0}, {64, math.MaxUint64, layout(0, 64), math.MaxUint64}, {64, 0x8000000000000001, layout(63, 1, 0, 1), 3}, {64, 0x0123456789abcdef, layout(32, 32, 0, 32), 0x89abcdef01234567}, {64, 1 << 63, layout(0, 1, 1, 63), 1 << 63},
		{1, 1, layout(0, 1), 1}, {1, 0, layout(0, 1), 0},
	} {
		field, e := format.Get(c.size, c.word, c.pieces)
		is(t, c, field, e, c.field, api.OK)
		mask := maskOf(c.pieces)
		word, e := format.Put(c.size, c.word&^mask, c.pieces, c.field)
		is(t, c, word, e, c.word, api.OK)
		word, e = format.Put(c.size, c.word|mask, c.pieces, c.field)
		is(t, c, word, e, c.word, api.OK)
	}
}

func TestP9_2Errors(t *testing.T) {
	two := layout(4, 2, 0, 1)
	for _, c := range []struct {
		size     int
		word     uint64
		pieces   []api.MachPiece
		field    uint64
		get, put api.Errno
	}{
		{0, 1, make([]api.MachPiece, 5), 1, api.ErrArg, api.ErrArg}, {65, 0, layout(0, 0), 0, api.ErrArg, api.ErrArg}, {-8, 256, two, 99, api.ErrArg, api.ErrArg},
		{8, 256, make([]api.MachPiece, 5), 1, api.ErrMany, api.ErrMany}, {8, 0, make([]api.MachPiece, 9), 0, api.ErrMany, api.ErrMany},
		{8, 256, layout(0, 0), 1, api.ErrBad, api.ErrBad}, {5, 32, two, 8, api.ErrBad, api.ErrBad}, {5, 0, two, 0, api.ErrBad, api.ErrBad}, {8, 256, layout(0, 1, 0, 1), 4, api.ErrBad, api.ErrBad},
		{8, 256, two, 0, api.ErrRange, api.ErrRange}, {8, 256, two, 8, api.ErrRange, api.ErrRange}, {8, 256, nil, 0, api.ErrRange, api.ErrRange}, {1, 2, nil, 0, api.ErrRange, api.ErrRange}, {63, 1 << 63, layout(0, 63), 0, api.ErrRange, api.ErrRange}, {6, 64, two, 0, api.ErrRange, api.ErrRange}, {6, math.MaxUint64, two, 0, api.ErrRange, api.ErrRange},
		{8, 255, two, 8, api.OK, api.ErrRange}, {8, 255, two, math.MaxUint64, api.OK, api.ErrRange}, {8, 255, nil, 1, api.OK, api.ErrRange}, {8, 255, []api.MachPiece{}, 1 << 63, api.OK, api.ErrRange}, {64, 1, layout(0, 63), 1 << 63, api.OK, api.ErrRange}, {64, 1, layout(0, 32, 32, 31), 1 << 63, api.OK, api.ErrRange}, {8, 0, layout(0, 8), 256, api.OK, api.ErrRange},
		{8, 255, two, 7, api.OK, api.OK}, {8, 255, nil, 0, api.OK, api.OK}, {64, math.MaxUint64, layout(0, 32, 32, 32), math.MaxUint64, api.OK, api.OK}, {63, 1<<63 - 1, layout(0, 63), 1<<63 - 1, api.OK, api.OK}, {6, 63, two, 0, api.OK, api.OK},
	} {
		x, e := format.Get(c.size, c.word, c.pieces)
		if e != c.get || e != api.OK && x != 0 {
			t.Errorf("get %v: %x %d", c, x, e)
		}
		x, e = format.Put(c.size, c.word, c.pieces, c.field)
		if e != c.put || e != api.OK && x != 0 {
			t.Errorf("put %v: %x %d", c, x, e)
		}
	}
}

func TestP9_2Chance(t *testing.T) {
	r := newRandom(2)
	for range 20000 {
		size := 1 + r.IntN(64)
		l := r.layout(size, 4)
		width := len(bitsOf(l))
		agrees(t, size, r.below(size), l, r.below(width))
		agrees(t, size, r.below(min(size+1, 64)), l, r.below(width))
		agrees(t, size, r.below(size), l, r.below(min(width+1, 64)))
	}
}

// TestR2Memory tells whether something was written to the list, or behind its end.
func TestR2Memory(t *testing.T) {
	r := newRandom(3)
	for range 2000 {
		size := 1 + r.IntN(64)
		room := append(r.layout(size, 4), layout(-7, 3, 9, 99, 0, 1)...)
		before := slices.Clone(room)
		l := room[:len(room)-3]
		agrees(t, size, r.below(size), l, r.below(len(bitsOf(l))))
		agrees(t, size, r.below(size), room, 0)
		if !slices.Equal(room, before) {
			t.Fatalf("%v became %v", before, room)
		}
	}
}

func TestR3NilAndEmpty(t *testing.T) {
	for _, l := range [][]api.MachPiece{nil, {}, layout(0, 1)[:0]} {
		for _, size := range []int{1, 8, 64} {
			agrees(t, size, 1, l, 0)
			agrees(t, size, 1, l, 1)
		}
	}
}

func TestR7Layouts(t *testing.T) {
	for _, size := range extremes {
		for _, at := range extremes {
			for _, many := range extremes {
				for _, x := range []uint64{0, 1, 1 << 32, 1 << 63, math.MaxUint64} {
					agrees(t, size, x, layout(at, many), x)
					agrees(t, size, x, layout(0, 1, at, many), x)
				}
			}
		}
	}
	agrees(t, 64, 0, make([]api.MachPiece, 1<<20), 0)
}
