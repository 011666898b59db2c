package state_test

import (
	"bytes"
	"math"
	"slices"
	"testing"

	"retarget/api"
	"retarget/state"
)

// TestP14_3Example has the chapter's example.
func TestP14_3Example(t *testing.T) {
	m := api.Given(1)
	s := must(state.Store(m, must(state.New(m)), 65535, 16, 258))
	loads(t, m, s, 65535, 8, 2)
	loads(t, m, s, 0, 8, 1)
	loads(t, m, s, 65535, 32, 258)
	if !slices.Equal(s.Mem, cells(0, 1, 65535, 2)) {
		t.Error(s.Mem)
	}
}

func TestP14_3(t *testing.T) {
	for _, m := range []api.Machine{mixed(), broad()} {
		last := limit(m) - 1
		s := valid()
		s.Mem = cells(0, 0x11, 1, 0x22, 3, 0x44, 100, 0xff, last-2, 0xdd, last, 0xff)
		for _, c := range []struct {
			at    uint64
			width int
			want  uint64
		}{
			{0, 8, 0x11}, {2, 8, 0}, {last, 8, 0xff}, {last - 1, 8, 0}, {50, 8, 0}, {0, 16, 0x2211}, {2, 16, 0x4400}, {last, 16, 0x11ff}, {4, 16, 0}, {99, 16, 0xff00}, {100, 16, 0xff},
			{0, 32, 0x44002211}, {3, 32, 0x44}, {last - 2, 32, 0x11ff00dd}, {last, 32, 0x002211ff}, {97, 32, 0xff000000}, {0, 64, 0x44002211}, {93, 64, 0xff00000000000000},
			{last - 2, 64, 0x0044002211ff00dd}, {last, 64, 0x44002211ff}, {last - 6, 64, 0x11ff00dd00000000},
		} {
			loads(t, m, s, c.at, c.width, c.want)
			stores(t, m, s, c.at, c.width, c.want, s)
		}
		for _, c := range []struct {
			at    uint64
			width int
			x     uint64
			want  []api.Cell
		}{
			{0, 8, 0, cells(1, 0x22, 3, 0x44, 100, 0xff, last-2, 0xdd, last, 0xff)},
			{0, 8, 0x99, cells(0, 0x99, 1, 0x22, 3, 0x44, 100, 0xff, last-2, 0xdd, last, 0xff)},
			{2, 8, 0x99, cells(0, 0x11, 1, 0x22, 2, 0x99, 3, 0x44, 100, 0xff, last-2, 0xdd, last, 0xff)},
			{last, 16, 0x0100, cells(0, 1, 1, 0x22, 3, 0x44, 100, 0xff, last-2, 0xdd)},
			{last, 16, 0, cells(1, 0x22, 3, 0x44, 100, 0xff, last-2, 0xdd)},
			{1, 32, 0x89abcdef, cells(0, 0x11, 1, 0xef, 2, 0xcd, 3, 0xab, 4, 0x89, 100, 0xff, last-2, 0xdd, last, 0xff)},
			{last - 3, 32, 0x00cc00aa, cells(0, 0x11, 1, 0x22, 3, 0x44, 100, 0xff, last-3, 0xaa, last-1, 0xcc)},
			{last - 3, 64, 0x0807060504030201, cells(0, 5, 1, 6, 2, 7, 3, 8, 100, 0xff, last-3, 1, last-2, 2, last-1, 3, last, 4)},
			{last - 3, 64, 0, cells(100, 0xff)},
			{96, 64, math.MaxUint64, cells(0, 0x11, 1, 0x22, 3, 0x44, 96, 255, 97, 255, 98, 255, 99, 255, 100, 255, 101, 255, 102, 255, 103, 255, last-2, 0xdd, last, 0xff)},
		} {
			want := copyOf(s)
			want.Mem = c.want
			stores(t, m, s, c.at, c.width, c.x, want)
		}
	}
}

// TestP14_3Chance has machines, states and stores by chance.
func TestP14_3Chance(t *testing.T) {
	r := newMaker(6)
	for range 1500 {
		m := pick(r, machines())
		s := r.state(m, 30)
		at := r.at(m)
		width, x := r.number()
		loads(t, m, s, at, width, numberOf(bytesAt(m, s, at, width/8)))
		stores(t, m, s, at, width, x, withBytes(m, s, at, bytesOf(x, width/8)))
		if t.Failed() {
			t.Fatal(s)
		}
	}
}

// TestP14_3Width has widths that are none of a number; their error comes before that of an address, and of a number.
func TestP14_3Width(t *testing.T) {
	for _, m := range []api.Machine{mixed(), broad()} {
		for width := -10; width <= 140; width++ {
			if width != 8 && width != 16 && width != 32 && width != 64 {
				noNumber(t, m, valid(), 7, width, 0, api.ErrWidth)
				noNumber(t, m, valid(), limit(m), width, math.MaxUint64, api.ErrWidth)
			} else {
				noNumber(t, m, valid(), limit(m), width, 0, api.ErrArg)
			}
		}
		for _, width := range extremes {
			noNumber(t, m, valid(), 7, width, 0, api.ErrWidth)
			noNumber(t, m, valid(), math.MaxUint64, width, math.MaxUint64, api.ErrWidth)
		}
	}
}

// TestP14_3Arg has numbers that are no addresses; their error comes before that of a number.
func TestP14_3Arg(t *testing.T) {
	for _, m := range []api.Machine{mixed(), broad()} {
		for _, width := range []int{8, 16, 32, 64} {
			for _, at := range []uint64{limit(m), limit(m) + 1, 1 << 32, 1 << 63, math.MaxUint64, math.MaxUint64 - 7} {
				noNumber(t, m, valid(), at, width, 0, api.ErrArg)
				noNumber(t, m, valid(), at, width, math.MaxUint64, api.ErrArg)
			}
			loads(t, m, valid(), limit(m)-1, width, numberOf(bytesAt(m, valid(), limit(m)-1, width/8)))
		}
	}
}

// full returns a state of m without room for more bytes: from the address 0 on, each second byte is 1.
func full(m api.Machine) api.MachState {
	s := must(state.New(m))
	s.Mem = row(0, 2, api.MaxCells)
	return s
}

// TestP14_3Range has numbers that are too great; their error comes before that of memory.
func TestP14_3Range(t *testing.T) {
	m := mixed()
	for _, s := range []api.MachState{valid(), full(m)} {
		for _, c := range []struct {
			width int
			x     []uint64
		}{{8, []uint64{256, 257, 1 << 32, 1 << 63, math.MaxUint64}}, {16, []uint64{65536, 1 << 32, math.MaxUint64}}, {32, []uint64{1 << 32, 1<<32 + 1, 1 << 63, math.MaxUint64}}} {
			for _, x := range c.x {
				noStore(t, m, s, 1, c.width, x, api.ErrRange)
				noStore(t, m, s, 0, c.width, x, api.ErrRange)
				noStore(t, m, s, 65536, c.width, x, api.ErrArg)
			}
			stores(t, m, valid(), 1, c.width, c.x[0]-1, withBytes(m, valid(), 1, bytesOf(c.x[0]-1, c.width/8)))
		}
	}
	stores(t, m, valid(), 1, 64, math.MaxUint64, withBytes(m, valid(), 1, bytesOf(math.MaxUint64, 8)))
}

// TestP14_3Full has memory at its limit: what counts are the bytes that are not 0 after the whole store.
func TestP14_3Full(t *testing.T) {
	for _, m := range []api.Machine{mixed(), broad()} {
		s := full(m)
		for _, c := range []struct {
			at    uint64
			width int
			x     uint64
		}{{1, 8, 1}, {limit(m) - 1, 8, 255}, {8191, 8, 1}, {8192, 8, 1}, {0, 16, 0x0101}, {8190, 16, 0x0101}, {limit(m) - 1, 16, 0x0101}, {1, 32, 0x00010101}, {0, 64, 0x0100010001000101}, {9000, 64, 1 << 63}, {1, 64, 0x0001000101010101}} {
			noStore(t, m, s, c.at, c.width, c.x, api.ErrFull)
		}
		for _, c := range []struct {
			at    uint64
			width int
			x     uint64
		}{{1, 8, 0}, {0, 8, 9}, {8190, 8, 0}, {0, 16, 0x0100}, {limit(m) - 1, 16, 1}, {8191, 16, 0}, {1, 32, 0x00010001}, {2, 64, 0x0100010001000100}, {2, 64, 0}, {limit(m) - 5, 64, 0}, {limit(m) - 3, 64, 0x0000000100000001}, {1, 64, 0x0000000100010101}} {
			stores(t, m, s, c.at, c.width, c.x, withBytes(m, s, c.at, bytesOf(c.x, c.width/8)))
		}
		s.Mem = s.Mem[1:]
		stores(t, m, s, 0, 8, 3, withBytes(m, s, 0, []byte{3}))
		stores(t, m, s, limit(m)-1, 32, 3, withBytes(m, s, limit(m)-1, []byte{3, 0, 0, 0}))
		noStore(t, m, s, limit(m)-1, 16, 0x0303, api.ErrFull)
	}
}

func TestP14_4(t *testing.T) {
	for _, m := range []api.Machine{mixed(), broad()} {
		last := limit(m) - 1
		s := valid()
		s.Mem = cells(0, 0x11, 1, 0x22, 3, 0x44, last, 0xff)
		for _, c := range []struct {
			at   uint64
			b    []byte
			want []api.Cell
		}{
			{0, nil, s.Mem}, {last, []byte{}, s.Mem}, {5, []byte{0}, s.Mem}, {last - 1, []byte{0, 0xff, 0x11, 0x22, 0, 0x44, 0}, s.Mem},
			{2, []byte{5, 0, 7}, cells(0, 0x11, 1, 0x22, 2, 5, 4, 7, last, 0xff)},
			{last - 1, []byte{1, 2, 3, 0, 4}, cells(0, 3, 2, 4, 3, 0x44, last-1, 1, last, 2)},
			{last - 1, make([]byte, 6), nil},
			{last, []byte{1}, cells(0, 0x11, 1, 0x22, 3, 0x44, last, 1)},
		} {
			want := copyOf(s)
			want.Mem = c.want
			puts(t, m, s, c.at, c.b, want)
			gets(t, m, want, c.at, c.b)
		}
		gets(t, m, s, last-1, []byte{0, 0xff, 0x11, 0x22, 0, 0x44, 0})
		gets(t, m, s, 3, []byte{0x44})
		gets(t, m, s, 2, []byte{0, 0x44, 0, 0})
		gets(t, m, s, 4, make([]byte, 4000))
		gets(t, m, s, 0, nil)
	}
}

// TestP14_4Chance has machines, states and bytes by chance.
func TestP14_4Chance(t *testing.T) {
	r := newMaker(7)
	for range 1500 {
		m := pick(r, machines())
		s := r.state(m, 30)
		at, b := r.at(m), r.bytes(50)
		puts(t, m, s, at, b, withBytes(m, s, at, b))
		at = r.at(m)
		gets(t, m, s, at, bytesAt(m, s, at, r.IntN(60)))
		if t.Failed() {
			t.Fatal(s)
		}
	}
}

// TestP14_4Large has as many bytes as can be, around the last address and elsewhere.
func TestP14_4Large(t *testing.T) {
	most := bytes.Repeat([]byte{1, 2, 3, 255}, api.MaxCells/4)
	for _, m := range []api.Machine{mixed(), broad()} {
		for _, at := range []uint64{0, 5, limit(m) - 2000, limit(m) - api.MaxCells, limit(m) - 1} {
			s := must(state.New(m))
			want := withBytes(m, s, at, most)
			puts(t, m, s, at, most, want)
			gets(t, m, want, at, most)
			gets(t, m, want, away(m, at, 1), append(most[1:], 0))
			gets(t, m, want, away(m, at, -1), append([]byte{0}, most[:api.MaxCells-1]...))
			puts(t, m, want, at, most, want)
			puts(t, m, want, at, make([]byte, api.MaxCells), s)
			noPut(t, m, want, away(m, at, 1), most, api.ErrFull)
			noPut(t, m, want, away(m, at, -1), most, api.ErrFull)
			noPut(t, m, want, at, append(most, 0), api.ErrMany)
		}
	}
}

// TestP14_4Full has memory at its limit: what counts are the bytes that are not 0 at the end.
func TestP14_4Full(t *testing.T) {
	for _, m := range []api.Machine{mixed(), broad()} {
		s := full(m)
		// Each byte moves to the next address.
		moved := bytes.Repeat([]byte{0, 1}, api.MaxCells/2)
		once := withBytes(m, s, 0, moved)
		puts(t, m, s, 0, moved, once)
		puts(t, m, once, api.MaxCells, moved, withBytes(m, once, api.MaxCells, moved))
		puts(t, m, s, 1, nil, s)
		puts(t, m, s, 1, make([]byte, api.MaxCells), withBytes(m, s, 1, make([]byte, api.MaxCells)))
		puts(t, m, s, limit(m)-2, []byte{7, 0, 0}, withBytes(m, s, limit(m)-2, []byte{7, 0, 0}))
		noPut(t, m, s, limit(m)-2, []byte{7, 0, 1}, api.ErrFull)
		noPut(t, m, s, 0, bytes.Repeat([]byte{1}, api.MaxCells), api.ErrFull)
		noPut(t, m, s, 1, []byte{1}, api.ErrFull)
		noPut(t, m, s, limit(m)-1, []byte{1}, api.ErrFull)
		s.Mem = s.Mem[:api.MaxCells-1]
		puts(t, m, s, 1, []byte{1}, withBytes(m, s, 1, []byte{1}))
		noPut(t, m, s, 1, []byte{1, 1, 1}, api.ErrFull)
	}
}

// TestP14_4Errors has errors of the arguments, and orders of them.
func TestP14_4Errors(t *testing.T) {
	for _, m := range []api.Machine{mixed(), broad()} {
		for _, s := range []api.MachState{valid(), full(m)} {
			for _, at := range []uint64{limit(m), limit(m) + 1, 1 << 32, 1 << 63, math.MaxUint64} {
				for _, n := range []int{0, 1, 3, api.MaxCells} {
					noPut(t, m, s, at, bytes.Repeat([]byte{1}, n), api.ErrArg)
					noGet(t, m, s, at, n, api.ErrArg)
				}
				noPut(t, m, s, at, bytes.Repeat([]byte{1}, api.MaxCells+1), api.ErrMany)
				noPut(t, m, s, at, make([]byte, 1<<20), api.ErrMany)
				noGet(t, m, s, at, api.MaxCells+1, api.ErrArg)
			}
			noPut(t, m, s, 1, bytes.Repeat([]byte{1}, api.MaxCells+1), api.ErrMany)
			noPut(t, m, s, 1, make([]byte, api.MaxCells+1), api.ErrMany)
			for _, n := range extremes {
				if n != 65 {
					noGet(t, m, s, 0, n, api.ErrArg)
				}
			}
			gets(t, m, s, limit(m)-1, bytesAt(m, s, limit(m)-1, 65))
		}
	}
}
