package term_test

import (
	"fmt"
	"math"
	"reflect"
	"slices"
	"testing"

	"retarget/api"
	"retarget/bits"
	"retarget/term"
)

func TestP2_2Vars(t *testing.T) {
	for _, c := range []struct {
		s    string
		want []api.Binding
	}{
		{"8:0f", nil}, {"(load 8 64:0000000000000000)", nil}, {"a:8", []api.Binding{{Name: "a", Width: 8}}}, {"(add a:8 a:8)", []api.Binding{{Name: "a", Width: 8}}},
		{"(concat b:3 (add a:8 c:8))", []api.Binding{{Name: "a", Width: 8}, {Name: "b", Width: 3}, {Name: "c", Width: 8}}},
		{"(concat (concat (concat r_:1 r:2) (concat r.a:3 r0:4)) (concat (concat a:5 A:6) (concat aa:7 (concat rA:9 r.A:8))))", []api.Binding{{Name: "A", Width: 6}, {Name: "a", Width: 5}, {Name: "aa", Width: 7}, {Name: "r", Width: 2}, {Name: "r.A", Width: 8}, {Name: "r.a", Width: 3}, {Name: "r0", Width: 4}, {Name: "rA", Width: 9}, {Name: "r_", Width: 1}}},
		{"(ite c:1 b:16 (load 16 a:64))", []api.Binding{{Name: "a", Width: 64}, {Name: "b", Width: 16}, {Name: "c", Width: 1}}},
	} {
		if vars, e := term.Vars(parse(t, c.s)); e != api.OK || fmt.Sprint(vars) != fmt.Sprint(c.want) {
			t.Errorf("%s: %v %d", c.s, vars, e)
		}
	}
}

func TestP2_2VarsOfManyAndOfNone(t *testing.T) {
	x, want := number(1, 0), 0
	for i := range 199 {
		x = op(api.TermConcat, 2, op(api.TermExtract, 1, op(api.TermZext, 64, variable(fmt.Sprintf("v%d", 199-i%50), 64))), op(api.TermExtract, 1, x))
		if term.Check(x) != api.OK {
			break
		}
		want = min(i+1, 50)
		vars, e := term.Vars(x)
		if e != api.OK || len(vars) != want {
			t.Fatal(i, len(vars), e)
		}
		for j := range want - 1 {
			if vars[j].Name >= vars[j+1].Name || vars[j].Bits != 0 || vars[j].Width != 64 {
				t.Fatal(vars)
			}
		}
	}
	if want < 20 {
		t.Error(want)
	}
	for _, c := range []struct {
		x api.Term
		e api.Errno
	}{{api.Term{}, api.ErrBad}, {wide(401), api.ErrMany}, {endless(2), api.ErrMany}, {op(api.TermConcat, 24, variable("a", 8), variable("a", 16)), api.ErrWidth}} {
		if vars, e := term.Vars(c.x); len(vars) != 0 || e != c.e {
			t.Errorf("%v %d", vars, e)
		}
	}
}

// cells returns many cells at addresses from an address on.
func cells(from uint64, many int) []api.Cell {
	var mem []api.Cell
	for i := range many {
		mem = append(mem, api.Cell{At: from + uint64(i), Byte: uint8(1 + i%255)})
	}
	return mem
}

// badCells returns memories that are not valid.
func badCells() [][]api.Cell {
	last := cells(0, 4096)
	last[4095].Byte = 0
	return [][]api.Cell{
		{{At: 0, Byte: 0}}, {{At: 5, Byte: 1}, {At: 6, Byte: 0}}, {{At: 5, Byte: 0}, {At: 6, Byte: 1}}, {{At: 5, Byte: 1}, {At: 5, Byte: 1}}, {{At: 5, Byte: 1}, {At: 4, Byte: 1}}, {{At: 1, Byte: 1}, {At: 3, Byte: 1}, {At: 2, Byte: 1}},
		{{At: math.MaxUint64, Byte: 1}, {At: 0, Byte: 1}}, {{At: 0, Byte: 1}, {At: 0, Byte: 2}}, cells(0, 4097), cells(1<<63, 5000), append(cells(0, 4095), api.Cell{At: 4094, Byte: 1}), last,
	}
}

func TestP2_2CheckCells(t *testing.T) {
	for _, mem := range [][]api.Cell{nil, {}, {{At: 0, Byte: 1}}, {{At: math.MaxUint64, Byte: 255}}, {{At: 0, Byte: 1}, {At: 1, Byte: 1}, {At: math.MaxUint64, Byte: 1}}, cells(0, 4095), cells(77, 4096), cells(1<<64-4096, 4096)} {
		if e := term.CheckCells(mem); e != api.OK {
			t.Errorf("%d cells: %d", len(mem), e)
		}
	}
	for i, mem := range badCells() {
		if e := term.CheckCells(mem); e != api.ErrBad {
			t.Errorf("bad memory %d: %d", i, e)
		}
	}
}

// bindings returns many bindings of the width 8.
func bindings(many int) []api.Binding {
	var env []api.Binding
	for i := range many {
		env = append(env, api.Binding{Name: fmt.Sprintf("v%04d", i), Width: 8, Bits: uint64(i % 256)})
	}
	return env
}

// badBindings returns bindings that are not valid.
func badBindings() [][]api.Binding {
	last := bindings(1000)
	last[999].Bits = 256
	return [][]api.Binding{
		{{Name: "", Width: 8}}, {{Name: "r.", Width: 8}}, {{Name: "9", Width: 8}}, {{Name: "r.r.a", Width: 8}}, {{Name: "a"}}, {{Name: "a", Width: 65}}, {{Name: "a", Width: -1}}, {{Name: "a", Width: 8, Bits: 256}}, {{Name: "a", Width: 1, Bits: 2}}, {{Name: "a", Width: 63, Bits: 1 << 63}},
		{{Name: "a", Width: 8}, {Name: "a", Width: 8}}, {{Name: "a", Width: 8}, {Name: "a", Width: 16}}, {{Name: "b", Width: 8}, {Name: "a", Width: 8}}, {{Name: "a", Width: 8}, {Name: "A", Width: 8}}, {{Name: "a0", Width: 8}, {Name: "a", Width: 8}}, {{Name: "r0", Width: 8}, {Name: "r.a", Width: 8}}, {{Name: "a10", Width: 8}, {Name: "a9", Width: 8}, {Name: "a11", Width: 8}},
		{{Name: "a", Width: 8}, {Name: "b", Width: 0}}, {{Name: "a", Width: 8}, {Name: "b c", Width: 8}}, bindings(1001), bindings(2000), append(bindings(999), api.Binding{Name: "v0998", Width: 8}), last,
	}
}

func TestP2_2CheckBound(t *testing.T) {
	for _, env := range [][]api.Binding{nil, {}, {{Name: "a", Width: 1, Bits: 1}}, {{Name: "r.a", Width: 64, Bits: math.MaxUint64}}, {{Name: "A", Width: 8}, {Name: "a", Width: 8}, {Name: "a0", Width: 8}, {Name: "a10", Width: 9}, {Name: "a9", Width: 8}, {Name: "r", Width: 8}, {Name: "r.a", Width: 8}, {Name: "r0", Width: 8}}, bindings(999), bindings(1000)} {
		if e := term.CheckBound(env); e != api.OK {
			t.Errorf("%d bindings: %d", len(env), e)
		}
	}
	for i, env := range badBindings() {
		if e := term.CheckBound(env); e != api.ErrBad {
			t.Errorf("bad bindings %d: %d", i, e)
		}
	}
}

func TestP2_3Load(t *testing.T) {
	mem := []api.Cell{{At: 0, Byte: 2}, {At: 1, Byte: 3}, {At: 4, Byte: 0x44}, {At: 7, Byte: 0x77}, {At: 255, Byte: 1}, {At: 256, Byte: 9}, {At: 65535, Byte: 0xfe}, {At: math.MaxUint64, Byte: 0xff}}
	for _, c := range []struct {
		address int
		at      uint64
		width   int
		want    uint64
	}{
		{8, 0, 8, 2}, {8, 1, 8, 3}, {8, 2, 8, 0}, {8, 0, 16, 0x302}, {8, 0, 32, 0x302}, {8, 1, 32, 0x44000003}, {8, 4, 32, 0x77000044}, {8, 0, 64, 0x7700004400000302}, {8, 7, 64, 0x77}, {8, 8, 64, 0},
		{8, 255, 8, 1}, {8, 255, 16, 0x201}, {8, 255, 32, 0x30201}, {8, 254, 32, 0x3020100}, {8, 251, 64, 0x30201_00000000}, {8, 249, 64, 0x201_000000000000},
		{9, 255, 8, 1}, {9, 255, 16, 0x901}, {9, 511, 16, 0x200}, {16, 255, 16, 0x901}, {16, 65535, 8, 0xfe}, {16, 65535, 16, 0x2fe}, {16, 65534, 32, 0x302fe00}, {17, 65535, 16, 0xfe},
		{1, 0, 64, 0x0302030203020302}, {1, 1, 64, 0x0203020302030203}, {1, 1, 16, 0x203}, {2, 3, 32, 0x30200}, {3, 4, 64, 0x0000030277000044},
		{64, math.MaxUint64, 8, 0xff}, {64, math.MaxUint64, 16, 0x2ff}, {64, math.MaxUint64 - 3, 64, 0x0302ff000000}, {64, 1<<64 - 8, 64, 0xff << 56}, {63, 1<<63 - 1, 16, 0x200}, {64, 0, 64, 0x7700004400000302},
	} {
		if x, e := term.Load(mem, c.address, c.at, c.width); e != api.OK || x != c.want {
			t.Errorf("%v: %x %d", c, x, e)
		}
		if x, e := term.Load(nil, c.address, c.at, c.width); e != api.OK || x != 0 {
			t.Errorf("%v of nothing: %x %d", c, x, e)
		}
	}
	full := cells(0, 4096)
	for at := range uint64(4096) {
		if x, e := term.Load(full, 12, at, 16); e != api.OK || x != 1+at%255+(1+(at+1)%4096%255)<<8 {
			t.Fatalf("%d: %x %d", at, x, e)
		}
	}
}

func TestP2_3LoadErrors(t *testing.T) {
	for _, c := range []struct {
		mem     []api.Cell
		address int
		at      uint64
		width   int
		e       api.Errno
	}{
		{nil, 0, 0, 8, api.ErrWidth}, {nil, 65, 0, 8, api.ErrWidth}, {nil, -1, 0, 8, api.ErrWidth}, {nil, math.MinInt, 0, 8, api.ErrWidth}, {nil, math.MaxInt, 0, 8, api.ErrWidth}, {nil, 1<<32 + 8, 0, 8, api.ErrWidth},
		{nil, 8, 0, 0, api.ErrWidth}, {nil, 8, 0, 1, api.ErrWidth}, {nil, 8, 0, 7, api.ErrWidth}, {nil, 8, 0, 9, api.ErrWidth}, {nil, 8, 0, 24, api.ErrWidth}, {nil, 8, 0, 48, api.ErrWidth}, {nil, 8, 0, 63, api.ErrWidth}, {nil, 8, 0, 65, api.ErrWidth}, {nil, 8, 0, 128, api.ErrWidth}, {nil, 8, 0, -8, api.ErrWidth}, {nil, 8, 0, 4, api.ErrWidth}, {nil, 8, 0, math.MinInt, api.ErrWidth}, {nil, 8, 0, 1<<32 + 8, api.ErrWidth},
		{nil, 8, 256, 8, api.ErrBad}, {nil, 1, 2, 64, api.ErrBad}, {nil, 63, 1 << 63, 8, api.ErrBad}, {nil, 8, math.MaxUint64, 8, api.ErrBad},
		{nil, 8, 256, 7, api.ErrWidth}, {nil, 0, 256, 8, api.ErrWidth}, {nil, 0, 0, 0, api.ErrWidth},
	} {
		if x, e := term.Load(c.mem, c.address, c.at, c.width); x != 0 || e != c.e {
			t.Errorf("%v: %x %d", c, x, e)
		}
		for _, mem := range badCells() {
			if x, e := term.Load(mem, c.address, c.at, c.width); x != 0 || e != api.ErrBad {
				t.Errorf("%v of a bad memory: %x %d", c, x, e)
			}
		}
	}
}

func TestP2_4ValueOfEachKind(t *testing.T) {
	env := []api.Binding{{Name: "a", Width: 8, Bits: 200}, {Name: "f", Width: 1, Bits: 1}, {Name: "g", Width: 1}, {Name: "p", Width: 16, Bits: 0xffff}, {Name: "r.b", Width: 8, Bits: 3}, {Name: "unused", Width: 64, Bits: 1}}
	mem := []api.Cell{{At: 0, Byte: 2}, {At: 1, Byte: 3}, {At: 200, Byte: 0x12}, {At: 203, Byte: 0x34}, {At: 255, Byte: 1}, {At: 65535, Byte: 0x55}}
	for s, want := range map[string]uint64{
		"8:0f": 15, "64:ffffffffffffffff": math.MaxUint64, "a:8": 200, "r.b:8": 3, "f:1": 1, "g:1": 0,
		"(not a:8)": 55, "(neg a:8)": 56, "(neg 8:00)": 0, "(add a:8 a:8)": 144, "(sub r.b:8 a:8)": 59, "(sub a:8 r.b:8)": 197, "(mul a:8 r.b:8)": 88, "(and a:8 8:0f)": 8, "(or a:8 r.b:8)": 203, "(xor a:8 8:ff)": 55,
		"(shl a:8 r.b:8)": 64, "(shl r.b:8 a:8)": 0, "(shr a:8 r.b:8)": 25, "(sar a:8 r.b:8)": 249, "(sar a:8 a:8)": 255, "(udiv a:8 r.b:8)": 66, "(udiv r.b:8 a:8)": 0, "(udiv a:8 8:00)": 255, "(urem a:8 r.b:8)": 2, "(urem a:8 8:00)": 200,
		"(eq a:8 8:c8)": 1, "(eq a:8 r.b:8)": 0, "(ult a:8 r.b:8)": 0, "(ult r.b:8 a:8)": 1, "(slt a:8 r.b:8)": 1, "(slt r.b:8 a:8)": 0, "(slt f:1 g:1)": 1, "(ult a:8 a:8)": 0,
		"(ite f:1 a:8 r.b:8)": 200, "(ite g:1 a:8 r.b:8)": 3, "(ite (ult a:8 r.b:8) g:1 f:1)": 1, "(concat a:8 r.b:8)": 0xc803, "(concat f:1 a:8)": 0x1c8, "(concat a:8 f:1)": 0x191,
		"(extract 3 4 a:8)": 9, "(extract 0 8 a:8)": 200, "(extract 7 1 a:8)": 1, "(extract 4 1 a:8)": 0, "(zext 16 a:8)": 200, "(sext 16 a:8)": 0xffc8, "(sext 16 r.b:8)": 3, "(sext 64 f:1)": math.MaxUint64, "(zext 64 f:1)": 1, "(sext 8 a:8)": 200,
		"(load 8 a:8)": 0x12, "(load 16 a:8)": 0x12, "(load 32 a:8)": 0x34000012, "(load 64 a:8)": 0x34000012, "(load 16 8:ff)": 0x201, "(load 16 9:0ff)": 1, "(load 16 p:16)": 0x255, "(load 8 f:1)": 3, "(load 16 f:1)": 0x203, "(load 8 (load 8 8:01))": 0,
		"(load 8 (load 8 8:ff))": 3, "(add (load 8 a:8) (load 8 (add a:8 8:03)))": 0x46, "(ite (eq (load 8 a:8) 8:12) (sub a:8 8:01) 8:00)": 199,
	} {
		x := parse(t, s)
		if v, e := term.Value(x, env, mem); e != api.OK || v != want {
			t.Errorf("%s: %x %d, not %x", s, v, e, want)
		}
	}
	if v, e := term.Value(parse(t, "(add a:8 8:0f)"), []api.Binding{{Name: "a", Width: 8, Bits: 3}}, nil); e != api.OK || v != 18 {
		t.Error(v, e)
	}
	if v, e := term.Value(parse(t, "(load 16 8:ff)"), nil, []api.Cell{{At: 0, Byte: 2}, {At: 255, Byte: 1}}); e != api.OK || v != 513 {
		t.Error(v, e)
	}
}

// TestP2_4ValueErrorsInOrder has arguments with several errors.
func TestP2_4ValueErrorsInOrder(t *testing.T) {
	good, clash := parse(t, "(concat (add b:8 a:8) (load 8 c:8))"), op(api.TermConcat, 24, variable("a", 8), variable("a", 16))
	bind := func(s string, widths ...int) []api.Binding {
		var env []api.Binding
		for i, w := range widths {
			env = append(env, api.Binding{Name: s[i : i+1], Width: w})
		}
		return env
	}
	badEnv, badMem := bind("ba", 8, 8), []api.Cell{{At: 1}}
	for _, c := range []struct {
		what string
		x    api.Term
		env  []api.Binding
		mem  []api.Cell
		e    api.Errno
	}{
		{"all is well", good, bind("abc", 8, 8, 8), nil, api.OK}, {"others are bound, too", good, bind("Aabcd", 1, 8, 8, 8, 3), nil, api.OK},
		{"too large", wide(401), badEnv, badMem, api.ErrMany}, {"not well-formed", api.Term{}, badEnv, badMem, api.ErrBad}, {"two widths", clash, badEnv, badMem, api.ErrWidth}, {"two widths, no binding", clash, nil, nil, api.ErrWidth},
		{"bindings", good, badEnv, nil, api.ErrBad}, {"memory", good, bind("a", 8), badMem, api.ErrBad}, {"memory that is not loaded from", number(8, 1), nil, badMem, api.ErrBad}, {"bindings that are not read", number(8, 1), badEnv, nil, api.ErrBad}, {"memory before names", good, nil, badMem, api.ErrBad},
		{"nothing is bound", good, nil, nil, api.ErrName}, {"a is not bound", good, bind("bc", 8, 8), nil, api.ErrName}, {"b is not bound", good, bind("ac", 8, 8), nil, api.ErrName}, {"c is not bound", good, bind("ab", 8, 8), nil, api.ErrName},
		{"a has another width", good, bind("abc", 16, 8, 8), nil, api.ErrWidth}, {"c has another width", good, bind("abc", 8, 8, 7), nil, api.ErrWidth},
		{"a has another width, b is not bound", good, bind("ac", 16, 8), nil, api.ErrWidth}, {"a is not bound, b has another width", good, bind("bc", 16, 8), nil, api.ErrName}, {"b has another width, c is not bound", good, bind("ab", 8, 16), nil, api.ErrWidth}, {"b is not bound, c has another width", good, bind("ac", 8, 16), nil, api.ErrName},
		{"in a part that does not count", parse(t, "(ite 1:1 8:00 z:8)"), nil, nil, api.ErrName}, {"a register of the same name", variable("r.a", 8), bind("a", 8), nil, api.ErrName}, {"another letter", variable("a", 8), bind("A", 8), nil, api.ErrName},
	} {
		if v, e := term.Value(c.x, c.env, c.mem); v != 0 || e != c.e {
			t.Errorf("%s: %x %d", c.what, v, e)
		}
	}
	for i, env := range badBindings() {
		if v, e := term.Value(number(8, 1), env, nil); v != 0 || e != api.ErrBad {
			t.Errorf("bad bindings %d: %x %d", i, v, e)
		}
	}
	for i, mem := range badCells() {
		if v, e := term.Value(number(8, 1), nil, mem); v != 0 || e != api.ErrBad {
			t.Errorf("bad memory %d: %x %d", i, v, e)
		}
	}
}

// must returns a value of layer 1 or 2 that comes without an error.
func must(x uint64, e api.Errno) uint64 {
	if e != api.OK {
		panic(e)
	}
	return x
}

// together is the value of a term that is put together from those of its parts.
func together(x api.Term, env []api.Binding, mem []api.Cell) uint64 {
	var v, w [3]uint64
	for i, p := range x.Sub {
		v[i], w[i] = must(term.Value(p, env, mem)), uint64(p.Width)
	}
	switch x.Kind {
	case api.TermConst:
		return x.Bits
	case api.TermVar:
		for _, b := range env {
			if b.Name == x.Name {
				return b.Bits
			}
		}
		panic(x.Name)
	case api.TermNot, api.TermNeg:
		return must(bits.Unary(x.Kind, x.Width, v[0]))
	case api.TermIte:
		if v[0] == 0 {
			return v[2]
		}
		return v[1]
	case api.TermConcat:
		return v[0]<<w[1] | v[1]
	case api.TermExtract:
		return v[0] >> x.Low & bits.Mask(x.Width)
	case api.TermZext:
		return v[0]
	case api.TermSext:
		return must(bits.Of(x.Width, must2(bits.Signed(int(w[0]), v[0]))))
	case api.TermLoad:
		return must(term.Load(mem, int(w[0]), v[0], x.Width))
	}
	return must(bits.Binary(x.Kind, int(w[0]), v[0], v[1]))
}

func must2(n int64, e api.Errno) int64 {
	must(0, e)
	return n
}

func TestP2_7ValuesOfParts(t *testing.T) {
	m := newMaker(4)
	kinds := map[uint8]int{}
	for range 5000 {
		x := m.valid()
		vars, e := term.Vars(x)
		if e != api.OK {
			t.Fatal(x, e)
		}
		env, mem := m.bound(vars), m.memory()
		for _, n := range places(&x) {
			v, e := term.Value(*n, env, mem)
			if e != api.OK || !bits.Ok(n.Width, v) || v != together(*n, env, mem) {
				t.Fatalf("%v with %v: %x %d", n, env, v, e)
			}
			kinds[n.Kind]++
		}
	}
	for k := api.TermConst; k <= api.TermLoad; k++ {
		if kinds[k] < 100 {
			t.Errorf("kind %d: %d", k, kinds[k])
		}
	}
}

func TestP2_3LoadByChance(t *testing.T) {
	m := newMaker(5)
	for range 2000 {
		mem := m.memory()
		byteAt := map[uint64]uint64{}
		for _, c := range mem {
			byteAt[c.At] = uint64(c.Byte)
		}
		address := m.width()
		at := []uint64{0, bits.Mask(address), mem[m.IntN(len(mem))].At - m.Uint64N(8)}[m.IntN(3)] & bits.Mask(address)
		for _, w := range []int{8, 16, 32, 64} {
			var want uint64
			for i := w/8 - 1; i >= 0; i-- {
				a := at + uint64(i)
				if address < 64 {
					a %= 1 << address
				}
				want = want<<8 + byteAt[a]
			}
			if x, e := term.Load(mem, address, at, w); e != api.OK || x != want {
				t.Fatalf("%v %d:%x %d: %x %d, not %x", mem, address, at, w, x, e, want)
			}
		}
	}
}

// TestP1Arguments has memory behind the ends of all lists, which may not be written to.
func TestP1Arguments(t *testing.T) {
	m := newMaker(6)
	for range 500 {
		x, u := m.valid(), m.valid()
		// Parts come behind what they are parts of, and are copied with them.
		for _, n := range slices.Backward(append(places(&x), places(&u)...)) {
			n.Sub = append(n.Sub, number(8, 1), number(9, 2))[:len(n.Sub)]
		}
		vars, _ := term.Vars(x)
		env, mem := m.bound(vars), m.memory()
		env = append(env, api.Binding{Name: "z", Width: 3, Bits: 5})[:len(env)]
		mem = append(mem, api.Cell{At: 9, Byte: 9})[:len(mem)]
		all := func() string {
			s := fmt.Sprint(x, u, env[:len(env)+1], mem[:len(mem)+1])
			for _, n := range append(places(&x), places(&u)...) {
				s += fmt.Sprint(n.Sub[:len(n.Sub)+2])
			}
			return s
		}
		before := all()
		for range 2 {
			term.Check(x)
			term.Pure(x)
			term.Same(x, u)
			term.Twin(x)
			term.Value(x, env, mem)
			term.Load(mem, 16, 65535, 64)
			term.Text(x)
			term.CheckBound(env)
			term.CheckCells(mem)
			if len(vars) > 0 {
				term.Subst(x, vars[0].Name, number(vars[0].Width, 0))
				term.Subst(x, vars[0].Name, u)
			}
		}
		if all() != before {
			t.Fatal("an argument was changed")
		}
	}
}

// TestP1NoPanics calls everything with terms of all sorts: there is no panic (R7), no value beside an error, and the same result again.
func TestP1NoPanics(t *testing.T) {
	m := newMaker(7)
	for range 5000 {
		x, u := m.valid(), m.valid()
		for range m.IntN(4) {
			all := places(&x)
			m.spoil(all[m.IntN(len(all))])
		}
		for range m.IntN(2) {
			all := places(&u)
			m.spoil(all[m.IntN(len(all))])
		}
		vars, e := term.Vars(x)
		if e != api.OK && len(vars) != 0 {
			t.Fatal(vars, e)
		}
		env, mem := m.bound(vars), m.memory()
		v, e := term.Value(x, env, mem)
		w, f := term.Value(x, env, mem)
		if e != api.OK && v != 0 || e != term.Check(x) || v != w || e != f {
			t.Fatal(x, v, e)
		}
		s, e := term.Text(x)
		if e != api.OK && s != "" || e != term.Check(x) {
			t.Fatal(x, s, e)
		}
		y, e := term.Subst(x, "a8", u)
		if e != api.OK {
			zero(t, y)
		}
		if z, f := term.Subst(x, "a8", u); e != f || !reflect.DeepEqual(y, z) {
			t.Fatal(y, z)
		}
		if term.Pure(x) && term.Check(x) != api.OK || term.Size(x) < term.Depth(x) || !term.Same(x, term.Twin(x)) {
			t.Fatal(x)
		}
	}
}
