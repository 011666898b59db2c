package describe_test

import (
	"slices"
	"strconv"
	"strings"
	"testing"

	"retarget/api"
	"retarget/describe"
)

func TestP10_2Sample(t *testing.T) {
	reads(t, sampleText, sample())
	reads(t, tinyText, tiny())
	reads(t, strings.TrimSuffix(tinyText, "\n"), tiny())
}

// TestP10_2Given reads the given machines, whose texts TestP10_1Given has looked at.
func TestP10_2Given(t *testing.T) {
	for k := range 3 {
		reads(t, textOf(api.Given(k)), api.Given(k))
	}
}

// TestP10_2Numbers has numbers in all of their forms.
func TestP10_2Numbers(t *testing.T) {
	reads(t, "machine t word 0x1 address 0x10\nreg a 0x8\nunit u 0x1", tiny())
	want := tiny()
	want.Instrs = []api.MachInstr{{Name: "i", Mask: 0xf0, Match: 0x80, Busy: 10, Latency: 11, Operands: []api.MachOperand{{Name: "n", Kind: api.OperandUnsigned, Scale: 2, Pieces: []api.MachPiece{{At: 1, Len: 3}}, Tied: -1}}}}
	reads(t, tinyText+"instr i mask 240 match 128 unit u busy 0xa latency 0xb slots 0x0\noperand n unsigned scale 0x2 at 0x1 len 0x3\n", want)
	reads(t, tinyText+"instr i mask 0xf0 match 0x80 unit u busy 10 latency 11 slots 0\noperand n unsigned scale 2 at 1 len 3\n", want)
}

// TestP10_2Words has names that are words of the forms.
func TestP10_2Words(t *testing.T) {
	want := api.Machine{
		Name: "word", Word: 1, Address: 16,
		Regs:  []api.MachReg{{Name: "reg", Width: 8, Of: -1}, {Name: "in", Width: 4, Of: 0, Low: 2}, {Name: "at", Width: 8, Of: -1}},
		Banks: []api.MachBank{{Name: "bank", Regs: []int{0, 2}}},
		Units: []api.MachUnit{{Name: "unit", Count: 2}, {Name: "busy", Count: 1}},
		Instrs: []api.MachInstr{
			{Name: "mask", Unit: 1, Busy: 1, Latency: 1, Operands: []api.MachOperand{{Name: "tied", Kind: api.OperandReg, Pieces: []api.MachPiece{{At: 0, Len: 1}}, Tied: -1}, {Name: "reg", Kind: api.OperandReg}}, Effects: []api.MachEffect{{Kind: api.EffectReg, Operand: 1, Value: parse("tied:8")}, {Kind: api.EffectReg, Operand: -1, Reg: 1, Value: parse("r.in:4")}, {Kind: api.EffectJump, Value: parse("pc:16"), Cond: parse("1:1")}}},
			{Name: "operand", Busy: 1, Latency: 1},
		},
	}
	reads(t, `machine word word 1 address 16
reg reg 8
reg in 4 in reg at 2
reg at 8
bank bank : reg at
unit unit 2
unit busy 1
instr mask mask 0 match 0 unit busy busy 1 latency 1 slots 0
operand tied reg bank at 0 len 1
operand reg tied tied
set reg "tied:8"
fix in "r.in:4"
goto "pc:16" if "1:1"
instr operand mask 0 match 0 unit unit busy 1 latency 1 slots 0`, want)
}

// TestP10_2Forms has lines in the place of one of sampleText, in which n stands for its number.
func TestP10_2Forms(t *testing.T) {
	form, name, bad := api.ErrForm, api.ErrName, api.ErrBad
	for _, x := range []struct {
		old, next string
		want      api.Errno
	}{
		{"machine sample word 3 address 16", "machine", form}, {"machine sample word 3 address 16", "machine sample", form}, {"machine sample word 3 address 16", "machine sample word", form},
		{"machine sample word 3 address 16", "machine sample word 3", form}, {"machine sample word 3 address 16", "machine sample word 3 address", form}, {"machine sample word 3 address 16", "machine sample word 3 address 16 16", form},
		{"machine sample", "machine 5", form}, {"machine sample", "machine \"sample\"", form}, {"machine sample", "machine :", form}, {"machine sample", "machine sample sample", form}, {"machine sample", "Machine sample", form}, {"machine sample", "\"machine\" sample", form}, {"machine sample", "machines sample", form},
		{"word 3", "words 3", form}, {"word 3", "\"word\" 3", form}, {"word 3", "word \"3\"", form}, {"word 3", "word x", form}, {"word 3", "3", form}, {"word 3", "address 3", form}, {"word 3 address 16", "address 16 word 3", form},
		{"address 16", "address word", form}, {"address 16", ": 16", form}, {"address 16", "at 16", form}, {"word 3", "word 0", bad}, {"word 3", "word -3", bad}, {"word 3", "word 5", bad}, {"address 16", "address 17", bad}, {"address 16", "address 0x20", bad},
		{"reg f 1", "reg", form}, {"reg f 1", "reg f", form}, {"reg f 1", "reg 1 f", form}, {"reg f 1", "reg \"f\" 1", form}, {"reg f 1", "reg f f", form}, {"reg f 1", "reg f 1 1", form}, {"reg f 1", "reg f 1 at 0", form}, {"reg f 1", "reg f 1 :", form}, {"reg f 1", "reg f 1 in", form}, {"reg f 1", "reg f 1 in a", form}, {"reg f 1", "reg f 1 in a at", form}, {"reg f 1", "reg f 1 \"in\" a at 0", form},
		{"reg f 1", "reg f 1 in 1 at 0", form}, {"reg f 1", "reg f 1 in \"a\" at 0", form}, {"reg f 1", "reg f 1 in a in 0", form}, {"reg f 1", "reg f 1 in a at a", form}, {"reg f 1", "reg f 1 in a at 0 0", form}, {"reg f 1", "reg f 1 in a at 0 in a at 0", form},
		{"reg f 1", "reg f 1 in u at 0", name}, {"reg f 1", "reg f 1 in half", name}, {"reg f 1", "reg f 1 in in at 0", name}, {"reg f 1", "reg f 1 in A at x", name}, {"reg f 1", "reg 1 1 in z at 0", form}, {"reg f 1", "reg f 1 on z at 0", form}, {"reg f 1", "reg f 1 in sample at 0", name},
		{"reg f 1", "reg f 1 in f at 0", bad}, {"reg f 1", "reg f 1 in low at 0", bad}, {"reg f 1", "reg f 1 in a at 32", bad}, {"reg f 1", "reg f 1 in a at -1", bad}, {"reg f 1", "reg f 0", bad}, {"reg f 1", "reg f 65", bad}, {"reg f 1", "reg f -1", bad}, {"reg mid 16", "reg p 16", bad}, {"reg f 1", "reg f 999999999999999999", bad}, {"reg a 32", "reg a 32 in a at 0", bad},
		{"bank bit : top f", "bank", form}, {"bank bit : top f", "bank bit", form}, {"bank bit : top f", "bank bit top f", form}, {"bank bit : top f", "bank bit = top f", form}, {"bank bit : top f", "bank bit \":\" top f", form}, {"bank bit : top f", "bank : top f", form}, {"bank bit : top f", "bank bit : : top f", form}, {"bank bit : top f", "bank bit : top , f", form},
		{"bank bit : top f", "bank bit : top 5", form}, {"bank bit : top f", "bank bit : top \"f\"", form}, {"bank bit : top f", "bank bit : top z 5", name}, {"bank bit : top f", "bank bit : 5 z", form}, {"bank bit : top f", "bank bit : bit", name}, {"bank bit : top f", "bank bit : z : 5", name}, {"bank bit : top f", "bank 2 : z", form}, {"bank bit : top f", "bank bit : top F", name},
		{"bank bit : top f", "bank bit :", bad}, {"bank bit : top f", "bank bit : top top", bad}, {"bank bit : top f", "bank bit : top a", bad}, {"bank bit : top f", "bank bit : top f\nbank half : top f", bad},
		{"unit u 4", "unit", form}, {"unit u 4", "unit u", form}, {"unit u 4", "unit 4", form}, {"unit u 4", "unit 4 u", form}, {"unit u 4", "unit u : 4", form}, {"unit u 4", "unit u 4 4", form}, {"unit u 4", "unit u \"4\"", form}, {"unit u 4", "unit \"u\" 4", form}, {"unit u 4", "units u 4", form}, {"unit u 4", "unit u 5", bad}, {"unit u 4", "unit u 0", bad}, {"unit u 4", "unit u 4\nunit v 4", bad},
	} {
		tries(t, x.old, x.next, x.want)
	}
}

// tries replaces a part of a line of sampleText, and fails unless this is the error of this line, or of the whole if it is no error of a line.
func tries(t *testing.T, old, next string, want api.Errno) {
	t.Helper()
	before, after, found := strings.Cut(sampleText, old)
	if !found {
		t.Fatal(old)
	}
	place := 1 + strings.Count(before, "\n")
	if want == api.ErrBad || want == api.ErrMany {
		place = 0
	}
	wrong(t, before+next+after, place, want)
}

func TestP10_2FormsOfInstructions(t *testing.T) {
	form, name, bad := api.ErrForm, api.ErrName, api.ErrBad
	const head = "instr go mask 0xe00000 match 0xa00000 unit u busy 1 latency 1 slots 1"
	words := strings.Fields(head)
	for n := 1; n < len(words); n++ {
		tries(t, head+"\n", strings.Join(words[:n], " ")+"\n", form)
		if words[n] != "u" { // then busy would be the name of a unit
			tries(t, head+"\n", strings.Join(slices.Delete(slices.Clone(words), n, n+1), " ")+"\n", form)
		}
		tries(t, head+"\n", strings.Join(slices.Insert(slices.Clone(words), n, ":"), " ")+"\n", form)
		tries(t, head+"\n", strings.Join(slices.Replace(slices.Clone(words), n, n+1, `"`+words[n]+`"`), " ")+"\n", form)
		tries(t, head+"\n", strings.Join(slices.Replace(slices.Clone(words), n, n+1, "["), " ")+"\n", form)
	}
	for _, x := range []struct {
		next string
		want api.Errno
	}{
		{"instr go mask -1 match 0 unit u busy 1 latency 1 slots 1", form}, {"instr go mask 0 match -1 unit u busy 1 latency 1 slots 1", form}, {"instr go mask -14680064 match 10485760 unit u busy 1 latency 1 slots 1", form},
		{"instr go mask 0xe00000 match 0xa00000 unit w busy 1 latency 1 slots 1", name}, {"instr go mask 0xe00000 match 0xa00000 unit U", name}, {"instr go mask 0xe00000 match 0xa00000 unit bit busy x", name}, {"instr go mask 0xe00000 match 0xa00000 unit busy 1 latency 1 slots 1", name}, {"instr go mask 0xe00000 match 0xa00000 unit 1 busy 1 latency 1 slots 1", form}, {"instr 5 mask 0xe00000 match 0xa00000 unit w busy 1 latency 1 slots 1", form}, {"instr go mask 0xe00000 match -5 unit w busy 1 latency 1 slots 1", form},
		{"instr go match 0xa00000 mask 0xe00000 unit u busy 1 latency 1 slots 1", form}, {"instr go mask 0xe00000 match 0xa00000 unit u latency 1 busy 1 slots 1", form}, {"instr go mask 0xe00000 match 0xa00000 unit u busy 1 latency 1 slots 1 1", form}, {"instr go mask 0xe00000 match 0xa00000 unit u busy 1 latency 1 slots u", form},
		{"instr go mask 0x1e00000 match 0xa00000 unit u busy 1 latency 1 slots 1", bad}, {"instr go mask 0xfffffffffffffff match 0 unit u busy 1 latency 1 slots 1", bad}, {"instr go mask 0xa00000 match 0xe00000 unit u busy 1 latency 1 slots 1", bad}, {"instr go mask 0xe00000 match 0xa00000 unit u busy 16 latency 1 slots 1", bad}, {"instr go mask 0xe00000 match 0xa00000 unit u busy -1 latency 1 slots 1", bad}, {"instr go mask 0xe00000 match 0xa00000 unit u busy 1 latency 0 slots 1", bad}, {"instr go mask 0xe00000 match 0xa00000 unit u busy 1 latency 1 slots 3", bad}, {"instr mix mask 0xe00000 match 0xa00000 unit u busy 1 latency 1 slots 1", bad},
	} {
		tries(t, head+"\n", x.next+"\n", x.want)
	}
}

func TestP10_2FormsOfOperands(t *testing.T) {
	form, name, bad := api.ErrForm, api.ErrName, api.ErrBad
	for _, x := range []struct {
		old, next string
		want      api.Errno
	}{
		{"operand c tied d", "operand", form}, {"operand c tied d", "operand c", form}, {"operand c tied d", "operand c tied", form}, {"operand c tied d", "operand 5 tied d", form}, {"operand c tied d", "operand \"c\" tied d", form}, {"operand c tied d", "operand tied d", form}, {"operand c tied d", "operand c \"tied\" d", form}, {"operand c tied d", "operand c 1 d", form}, {"operand c tied d", "operand c to d", form}, {"operand c tied d", "operand c : d", form}, {"operand c tied d", "operand c unit u", form}, {"operand c tied d", "operand c number scale 1 at 8 len 4", form},
		{"operand c tied d", "operand c tied d at 0 len 1", form}, {"operand c tied d", "operand c tied d d", form}, {"operand c tied d", "operand c tied 0", form}, {"operand c tied d", "operand c tied \"d\"", form},
		{"operand c tied d", "operand c tied c", name}, {"operand c tied d", "operand c tied n", name}, {"operand c tied d", "operand c tied half at 0", name}, {"operand c tied d", "operand 5 tied z", form}, {"operand d reg half at 19 len 2", "operand d tied d", name}, {"operand to jump scale 0 at 1 len 12", "operand to tied d", name}, {"operand b reg bit at 7 len 1", "operand b reg bit at 7 len 1\noperand b tied b", bad}, {"operand u unsigned scale 3 at 12 len 5", "operand u tied n", bad}, {"operand u unsigned scale 3 at 12 len 5", "operand u tied c", bad},
		{"operand d reg half at 19 len 2", "operand d reg", form}, {"operand d reg half at 19 len 2", "operand d reg at 19 len 2", name}, {"operand d reg half at 19 len 2", "operand d reg 0 at 19 len 2", form}, {"operand d reg half at 19 len 2", "operand d reg \"half\" at 19 len 2", form}, {"operand d reg half at 19 len 2", "operand d reg halves at x", name}, {"operand d reg half at 19 len 2", "operand d reg p at 19 len 2", name}, {"operand d reg half at 19 len 2", "operand 1 reg p at 19 len 2", form}, {"operand d reg half at 19 len 2", "operand d reg scale 0 at 19 len 2", name}, {"operand d reg half at 19 len 2", "operand d reg half scale 0 at 19 len 2", form},
		{"operand d reg half at 19 len 2", "operand d reg half", bad}, {"operand d reg half at 19 len 2", "operand d reg half at 19 len 1", bad}, {"operand d reg half at 19 len 2", "operand d reg half at 20 len 2", bad}, {"instr load", "operand pc signed scale 0 at 0 len 1\ninstr load", bad}, {"operand d reg half at 19 len 2", "operand d reg bit at 19 len 2", bad},
		{"at 8 len 4 at 2 len 1", "at", form}, {"at 8 len 4 at 2 len 1", "at 8", form}, {"at 8 len 4 at 2 len 1", "at 8 len", form}, {"at 8 len 4 at 2 len 1", "at 8 len 4 at", form}, {"at 8 len 4 at 2 len 1", "at 8 len 4 at 2", form}, {"at 8 len 4 at 2 len 1", "at 8 len 4 at 2 len", form}, {"at 8 len 4 at 2 len 1", "at 8 len 4 at 2 len 1 at", form}, {"at 8 len 4 at 2 len 1", "at 8 len 4 2 1", form}, {"at 8 len 4 at 2 len 1", "len 4 at 8 at 2 len 1", form}, {"at 8 len 4 at 2 len 1", "at 8 len 4 , at 2 len 1", form}, {"at 8 len 4 at 2 len 1", "at 8 len 4 at 2 len 1 1", form}, {"at 8 len 4 at 2 len 1", "at 8 len 4 at x len 1", form}, {"at 8 len 4 at 2 len 1", "at 8 len 4 at 2 len x", form}, {"at 8 len 4 at 2 len 1", "\"at\" 8 len 4", form}, {"at 8 len 4 at 2 len 1", "at 8 at 4", form},
		{"at 8 len 4 at 2 len 1", "", bad}, {"at 8 len 4 at 2 len 1", "at 8 len 0", bad}, {"at 8 len 4 at 2 len 1", "at -1 len 1", bad}, {"at 8 len 4 at 2 len 1", "at 23 len 1", bad}, {"at 8 len 4 at 2 len 1", "at 8 len 4 at 8 len 4", bad}, {"at 8 len 4 at 2 len 1", "at 0 len 1 at 1 len 1 at 2 len 1 at 3 len 1 at 4 len 1", api.ErrMany},
		{"signed scale 1", "signed", form}, {"signed scale 1", "signed 1", form}, {"signed scale 1", "signed scale", form}, {"signed scale 1", "signed scale x", form}, {"signed scale 1", "Signed scale 1", form}, {"signed scale 1", "signed half", form}, {"signed scale 1", "signed scale 4", bad}, {"signed scale 1", "signed scale -1", bad}, {"unsigned scale 3", "unsigned : 3", form}, {"unsigned scale 3", "unsigned \"scale\" 3", form}, {"jump scale 0", "jump", form}, {"jump scale 0", "jump at 0", form}, {"jump scale 0", "jump scale 3 3", form}, {"jump scale 0", "trap scale 0", form},
	} {
		tries(t, x.old, x.next, x.want)
	}
}

func TestP10_2FormsOfEffects(t *testing.T) {
	form, name, bad := api.ErrForm, api.ErrName, api.ErrBad
	const set, fix, jump, stop = `set c "(add c:16 n:16)"`, `fix w "(concat (concat u:16 pc:16) r.a:32)"`, `goto "(add pc:16 (sub n:16 d:16))" if "r.f:1"`, `trap "(concat s:16 1:1)"`
	const store = `store "(add r.p:16 u:16)" "(extract 0 32 r.w:64)"`
	for _, x := range []struct {
		old, next string
		want      api.Errno
	}{
		{set, `set`, form}, {set, `set c`, form}, {set, `set 1 "c:16"`, form}, {set, `set "c" "c:16"`, form}, {set, `set c c`, form}, {set, `set c 16`, form}, {set, `set c "c:16" "c:16"`, form}, {set, `set c ""`, form}, {set, `set c " c:16"`, form}, {set, `set c "c:16 "`, form}, {set, `set c "c:016"`, form}, {set, `set c "(add c:16 n:15)"`, form}, {set, `set c "(add  c:16 n:16)"`, form}, {set, `set c "c:65"`, form}, {set, `set c c:16`, form}, {set, `set c : "c:16"`, form}, {set, `set "c:16"`, form},
		{set, `set x "c:16"`, name}, {set, `set p "c:16"`, name}, {set, `set to "c:16"`, name}, {set, `set pc`, name}, {set, `set z 5`, name}, {set, `set C "("`, name}, {set, `set c "c:32"`, bad}, {set, `set c "x:16"`, bad}, {set, `set c "16:10000"`, form}, {set, `set n "c:16"`, bad}, {set, `set c "r.c:16"`, bad},
		{fix, `fix`, form}, {fix, `fix w`, form}, {fix, `fix 6 "r.w:64"`, form}, {fix, `fix "w" "r.w:64"`, form}, {fix, `fix w w`, form}, {fix, `fix w "w"`, form}, {fix, `fix w "r.w:64" 1`, form}, {fix, `fix x "r.w:64"`, name}, {fix, `fix d "r.w:64"`, name}, {fix, `fix half 1`, name}, {fix, `fix r.w "r.w:64"`, name}, {fix, `fix a "r.w:64"`, bad}, {fix, `fix w "r.w:63"`, bad},
		{store, `store`, form}, {store, `store "r.p:16"`, form}, {store, `store "r.p:16" 5`, form}, {store, `store "r.p:16" p`, form}, {store, `store p "r.p:16"`, form}, {store, `store "r.p:16" "r.p:16" "r.p:16"`, form}, {store, `store "r.p:16" "x"`, form}, {store, `store "x" "r.p:16"`, form}, {store, `store "r.p:16" if "r.f:1"`, form}, {store, `store "r.a:32" "r.a:32"`, bad}, {store, `store "r.p:16" "r.f:1"`, bad}, {store, `store "r.p:16" "r.x:8"`, bad},
		{jump, `goto`, form}, {jump, `goto to`, form}, {jump, `goto 16`, form}, {jump, `goto "("`, form}, {jump, `goto "pc:16" if`, form}, {jump, `goto "pc:16" if r`, form}, {jump, `goto "pc:16" if "r"`, form}, {jump, `goto "pc:16" "r.f:1"`, form}, {jump, `goto "pc:16" "if" "r.f:1"`, form}, {jump, `goto "pc:16" in "r.f:1"`, form}, {jump, `goto "pc:16" if "r.f:1" 1`, form}, {jump, `goto "pc:16" if "r.f:1" if "r.f:1"`, form}, {jump, `goto if "r.f:1"`, form}, {jump, `goto "pc:16" 1`, form}, {jump, `goto "r.a:32"`, bad}, {jump, `goto "pc:16" if "pc:16"`, bad}, {jump, `goto "pc:16" if "x:1"`, bad},
		{stop, `trap`, form}, {stop, `trap s`, form}, {stop, `trap 1`, form}, {stop, `trap "s"`, form}, {stop, `trap "s:16" "s:16"`, form}, {stop, `trap "s:16" if "1:1"`, form}, {stop, `Trap "s:16"`, form}, {stop, `halt "s:16"`, form}, {stop, `trap "x:16"`, bad}, {stop, `trap "(load 8 32:00000000)"`, bad},
	} {
		tries(t, x.old, x.next, x.want)
	}
}

// TestP10_2RegistersBelow has registers in lines above those that define them, and some that are none.
func TestP10_2RegistersBelow(t *testing.T) {
	const head = "machine t word 1 address 16\n"
	want := tiny()
	want.Regs = []api.MachReg{{Name: "x", Width: 4, Of: 1, Low: 3}, {Name: "a", Width: 8, Of: -1}}
	reads(t, head+"reg x 4 in a at 3\nreg a 8\nunit u 1", want)
	// A line that begins with reg and a name defines a register, even if it has an error, or stands where it may not.
	wrong(t, head+"reg x 4 in b at 3\nunit u 1", 2, api.ErrName)
	wrong(t, head+"reg x 4 in b at 3\nreg b\nunit u 1", 3, api.ErrForm)
	wrong(t, head+"reg x 4 in b at 3\nreg b ] ] ]\nunit u 1", 3, api.ErrForm)
	wrong(t, head+"reg x 4 in b at 3\nunit u 1\nreg b 8", 4, api.ErrForm)
	wrong(t, head+"reg x 4 in b at 3 \nunit u 1\n\nreg b 8 in c at 0", 5, api.ErrForm)
	wrong(t, "reg a 8\n"+head+"reg x 4 in a at 3\nunit u 1", 1, api.ErrForm)
	wrong(t, head+"reg a 8\nbank x : a b\nunit u 1\nreg b 8", 5, api.ErrForm)
	wrong(t, head+"reg x 4 in b at 3\nreg \"b\" 8\nunit u 1", 2, api.ErrName)
	wrong(t, head+"reg x 4 in b at 3\n\"reg\" b 8\nunit u 1", 2, api.ErrName)
	wrong(t, head+"reg x 4 in b at 3\nregs b 8\nunit u 1", 2, api.ErrName)
	wrong(t, head+"reg x 4 in b at 3\nunit b 1", 2, api.ErrName)
	wrong(t, head+"reg x 4 in b at 3\nreg\nunit b 1", 2, api.ErrName)
	wrong(t, head+"reg x 4 in b at 3 # reg b 8\n# reg b 8\nunit u 1", 2, api.ErrName)
	wrong(t, head+"reg x 4 in b at 3\nreg a 8\nreg c reg b 8\nunit u 1", 2, api.ErrName)
	// Units, banks and operands are above.
	wrong(t, tinyText+"instr i mask 0 match 0 unit v busy 1 latency 1 slots 0\nunit v 1", 4, api.ErrName)
	wrong(t, tinyText+"instr i mask 0 match 0 unit u busy 1 latency 1 slots 0\noperand d reg b at 0 len 1\nbank b : a", 5, api.ErrName)
	wrong(t, tinyText+"instr i mask 0 match 0 unit u busy 1 latency 1 slots 0\noperand d tied e\noperand e signed scale 0 at 0 len 1", 5, api.ErrName)
	wrong(t, tinyText+"instr i mask 0 match 0 unit u busy 1 latency 1 slots 0\nset d \"8:00\"\noperand d reg b at 0 len 1", 5, api.ErrName)
	wrong(t, tinyText+"instr i mask 0 match 0 unit u busy 1 latency 1 slots 0\noperand d signed scale 0 at 0 len 1\ninstr j mask 0 match 0 unit u busy 1 latency 1 slots 0\nset d \"8:00\"", 7, api.ErrName)
}

// TestP10_2SameNames has names that are there twice: such machines are not valid, whichever of them is meant.
func TestP10_2SameNames(t *testing.T) {
	wrong(t, "machine t word 1 address 16\nreg a 8\nreg a 16\nunit u 1", 0, api.ErrBad)
	wrong(t, "machine t word 1 address 16\nreg a 8\nbank b : a\nbank b : a\nunit u 1", 0, api.ErrBad)
	wrong(t, tinyText+"unit u 1", 0, api.ErrBad)
	wrong(t, tinyText+"instr i mask 0 match 0 unit u busy 1 latency 1 slots 0\ninstr i mask 0 match 0 unit u busy 1 latency 1 slots 0", 0, api.ErrBad)
	wrong(t, tinyText+"instr i mask 0 match 0 unit u busy 1 latency 1 slots 0\noperand n signed scale 0 at 0 len 1\noperand n signed scale 0 at 1 len 1", 0, api.ErrBad)
}

// TestP10_2Order puts a right line of each kind behind lines that end with each kind.
func TestP10_2Order(t *testing.T) {
	const empty, m, r, b, u, i, o, f = "", "machine t word 1 address 16\n", "reg a 8\n", "bank b : a\n", "unit u 1\n", "instr i mask 0 match 0 unit u busy 1 latency 1 slots 0\n", "operand d reg b at 0 len 1\n", "set d \"8:00\"\n"
	starts := []string{empty, m, m + r, m + r + b, m + r + b + u, m + r + b + u + i, m + r + b + u + i + o, m + r + b + u + i + o + f}
	next := map[string]string{
		"machine": "machine s word 1 address 16", "reg": "reg c 8", "bank": "bank c : a", "unit": "unit c 1", "instr": "instr j mask 0 match 0 unit u busy 1 latency 1 slots 0", "operand": "operand e reg b at 1 len 1",
		"set": "set d \"8:01\"", "fix": "fix a \"8:02\"", "store": "store \"pc:16\" \"8:03\"", "goto": "goto \"pc:16\"", "trap": "trap \"1:1\"",
	}
	// For each word, the starts that its line may stand behind.
	may := map[string]string{"machine": "0", "reg": "12", "bank": "123", "unit": "1234", "instr": "1234567", "operand": "56", "set": "567", "fix": "567", "store": "567", "goto": "567", "trap": "567"}
	for word, line := range next {
		for k, start := range starts {
			_, place, e := describe.Read(start + line)
			switch {
			case !strings.Contains(may[word], strconv.Itoa(k)):
				wrong(t, start+line, k+1, api.ErrForm)
			case place == k+1 && e == api.ErrName && (word == "instr" && k < 4 || word == "bank" && k < 2 || word == "set" && k == 5):
				// What the line names is not there, but it may stand there.
			case place != 0 || e != api.OK && e != api.ErrBad:
				t.Errorf("%s behind %d: %v in line %d", word, k, e, place)
			}
			agrees(t, start+line)
			agrees(t, start+line+"\n"+line)
			// Nothing may stand above the machine line.
			wrong(t, line+"\n"+m+r+b+u, map[bool]int{true: 2, false: 1}[word == "machine"], api.ErrForm)
		}
	}
	want := must3(describe.Read(m + r + b + u + i + o + f))
	reads(t, m+r+b+u+i+o+f, want)
	if len(want.Instrs) != 1 || len(want.Instrs[0].Operands) != 1 || len(want.Instrs[0].Effects) != 1 {
		t.Error(want)
	}
}

// must3 returns the machine that Read returns without an error.
func must3(m api.Machine, line int, e api.Errno) api.Machine {
	if e != api.OK {
		panic(strconv.Itoa(line))
	}
	return m
}

// TestP10_2WrongPlace has lines with other errors where they may not stand.
func TestP10_2WrongPlace(t *testing.T) {
	wrong(t, tinyText+"bank b : nothing", 4, api.ErrForm)
	wrong(t, tinyText+"reg b 8 in nothing at 0", 4, api.ErrForm)
	wrong(t, tinyText+"set nothing \"8:00\"", 4, api.ErrForm)
	wrong(t, tinyText+"fix nothing \"8:00\"", 4, api.ErrForm)
	wrong(t, tinyText+"operand d reg nothing", 4, api.ErrForm)
	wrong(t, tinyText+"operand d tied nothing", 4, api.ErrForm)
	wrong(t, "instr i mask 0 match 0 unit nothing busy 1 latency 1 slots 0\n"+tinyText, 1, api.ErrForm)
	wrong(t, "fix nothing \"8:00\"\n"+tinyText, 1, api.ErrForm)
}

// TestP10_2Example is the document's.
func TestP10_2Example(t *testing.T) { wrong(t, "machine m word 4\naddress 32", 1, api.ErrForm) }

// TestP10_2Places has the errors of the first wrong line, and counts all lines.
func TestP10_2Places(t *testing.T) {
	for n := range 20 {
		above := strings.Repeat("\n", n)
		wrong(t, above+"x", n+1, api.ErrForm)
		wrong(t, above+"machine t word 1 address 16\n"+above+"reg a 8\n"+above+"bank b : c", 3*n+3, api.ErrName)
		wrong(t, strings.ReplaceAll(above, "\n", " # $ \" \x00\n")+tinyText+"x\ny z", n+4, api.ErrForm)
		reads(t, above+strings.ReplaceAll(tinyText, "\n", "\n"+above)+above, tiny())
	}
	wrong(t, tinyText+"bank b : a\nunit", 4, api.ErrForm)
	wrong(t, strings.Replace(tinyText, "reg a 8", "reg a 8 in c at 0\nreg", 1), 2, api.ErrName)
	wrong(t, strings.Replace(tinyText, "reg a 8", "reg\nreg a 8 in c at 0", 1), 2, api.ErrForm)
	wrong(t, strings.Replace(tinyText, "reg a 8", "reg a 99\nreg a 8 in a at 0 0", 1), 3, api.ErrForm)
	wrong(t, strings.Replace(tinyText, "word 1", "word 9", 1)+"bank", 4, api.ErrForm)
}

// TestP10_2NoWords has tokens with which no line begins.
func TestP10_2NoWords(t *testing.T) {
	for _, s := range []string{"machin", "machinee", "Machine", "REG", "regs", "operands", "word", "address", "in", "at", "if", "tied", "signed", "x", "5", "-5", "0x5", ":", "+", "\"machine\"", "\"reg\"", "\"\"", "= reg"} {
		wrong(t, s, 1, api.ErrForm)
		wrong(t, s+" t word 1 address 16\nreg a 8\nunit u 1", 1, api.ErrForm)
		wrong(t, tinyText+s, 4, api.ErrForm)
		wrong(t, tinyText+s+" b 8", 4, api.ErrForm)
		wrong(t, "machine t word 1 address 16\n"+s+" b 8\nunit u 1", 2, api.ErrForm)
	}
}

func TestP10_2NoMachine(t *testing.T) {
	for _, s := range []string{"", " ", "\n", "\n\n\n", "# machine t word 1 address 16", "  # x\n\n # y\n", strings.Repeat("\n", api.MaxTokens)} {
		wrong(t, s, 0, api.ErrForm)
	}
	wrong(t, "reg a 8\nunit u 1", 1, api.ErrForm)
	wrong(t, "\n\nunit u 1", 3, api.ErrForm)
	wrong(t, "machine t word 1 address 16", 0, api.ErrBad)
}

// TestP10_2Lexer has the errors of lexer.Tokens, which come first.
func TestP10_2Lexer(t *testing.T) {
	for _, s := range []string{"$", "\t", "\r", "a;", "007", "12ab", "0x01", "-0", "-", "\"", "\"a", "\"a\nb\"", "\"\x7f\"", "_a", strings.Repeat("a", 25), "\x00", "é", "1234567890123456789"} {
		place := 1
		for _, start := range []string{"", "x\n", tinyText, "\n\n# \"\n", "reg\n\n\n"} {
			place = 1 + strings.Count(start, "\n")
			wrong(t, start+s, place, api.ErrForm)
			wrong(t, start+s+"\n$\n$", place, api.ErrForm)
			wrong(t, start+"  "+s+"\n"+tinyText, place, api.ErrForm)
			wrong(t, start+"\n"+s, place+1, api.ErrForm)
		}
	}
	// The place is that of the token's first byte.
	wrong(t, tinyText+"instr \"x\ny\n", 4, api.ErrForm)
	// An error of the lexer comes before those of lines above.
	wrong(t, "x\ny\nz $", 3, api.ErrForm)
	wrong(t, "machine t word 1 address 16\nreg a 8 in b at 0\n\n$", 4, api.ErrForm)
}

// TestP10_2Limits has texts with as many bytes and tokens as there may be, and one more.
func TestP10_2Limits(t *testing.T) {
	pad := api.MaxText - len(tinyText)
	for _, with := range []string{" ", "#", "\n"} {
		s := tinyText + strings.Repeat(with, min(pad, 19900))
		reads(t, s, tiny())
	}
	reads(t, tinyText+strings.Repeat(" ", pad), tiny())
	reads(t, strings.Repeat(" ", pad)+tinyText, tiny())
	reads(t, "#"+strings.Repeat("x", pad-2)+"\n"+tinyText, tiny())
	wrong(t, tinyText+strings.Repeat(" ", pad+1), 0, api.ErrMany)
	// The text of this machine is one byte too long, but without the last line feed it is another description of it.
	reads(t, strings.TrimSuffix(textOf(wide(65537)), "\n"), wide(65537))
	wrong(t, strings.Repeat("$", api.MaxText+1), 0, api.ErrMany)
	wrong(t, strings.Repeat("$", api.MaxText), 1, api.ErrForm)

	// tinyText has 15 tokens.
	reads(t, tinyText+strings.Repeat("\n", api.MaxTokens-15), tiny())
	wrong(t, tinyText+strings.Repeat("\n", api.MaxTokens-14), 0, api.ErrMany)
	wrong(t, tinyText+strings.Repeat("\n", api.MaxTokens-15)+"$", api.MaxTokens-15+4, api.ErrForm)
	wrong(t, tinyText+strings.Repeat("\n", api.MaxTokens-14)+"$", 0, api.ErrMany)
	wrong(t, tinyText+strings.Repeat("\n", api.MaxTokens-16)+"x", api.MaxTokens-16+4, api.ErrForm)
	wrong(t, "x"+strings.Repeat(" x", api.MaxTokens), 0, api.ErrMany)
	wrong(t, "machine t word 1 address 16\nreg a 8\nbank b :"+strings.Repeat(" a", 19000)+"\nunit u 1", 0, api.ErrMany)
	wrong(t, tinyText+"instr i mask 0 match 0 unit u busy 1 latency 1 slots 0\noperand n signed scale 0"+strings.Repeat(" at 0 len 1", 4000), 0, api.ErrMany)
}

// TestP10_2Check has the errors of machine.Check, which have no line.
func TestP10_2Check(t *testing.T) {
	numbered := func(many int, line func(n string) string) string {
		s := ""
		for i := range many {
			s += line(strconv.Itoa(i)) + "\n"
		}
		return s
	}
	const head, a, u = "machine t word 1 address 16\n", "reg a 8\n", "unit u 1\n"
	reg := func(n string) string { return "reg r" + n + " 8" }
	bank := func(n string) string { return "bank b" + n + " : a" }
	unit := func(n string) string { return "unit u" + n + " 1" }
	instr := func(n string) string { return "instr i" + n + " mask 0 match 0 unit u busy 1 latency 1 slots 0" }
	operand := func(n string) string { return "operand n" + n + " signed scale 0 at " + n + " len 1" }
	set := func(n string) string { return "fix a \"8:0" + n + "\"" }
	for _, x := range []struct {
		most int
		text func(many int) string
	}{
		{64, func(many int) string { return head + numbered(many, reg) + u }},
		{16, func(many int) string { return head + a + numbered(many, bank) + u }},
		{8, func(many int) string { return head + a + numbered(many, unit) }},
		{64, func(many int) string { return head + a + u + numbered(many, instr) }},
		{4, func(many int) string { return head + a + u + instr("") + "\n" + numbered(many, operand) }},
		{4, func(many int) string { return head + a + u + instr("") + "\n" + numbered(many, set) }},
	} {
		if _, e := agrees(t, x.text(x.most)); e != api.OK {
			t.Errorf("%.100q: %v", x.text(x.most), e)
		}
		wrong(t, x.text(x.most+1), 0, api.ErrMany)
	}
	wrong(t, head+a+numbered(9, unit)+strings.Replace(instr(""), "unit u", "unit u0", 1)+"\nfix a \"1:1\"", 0, api.ErrMany)
	wrong(t, head+u, 0, api.ErrBad)
	wrong(t, head+a, 0, api.ErrBad)
}

// TestP10_2EachToken changes each token of sampleText, and leaves out or adds one.
func TestP10_2EachToken(t *testing.T) {
	others := []string{"d", "s", "low", "half", "u", "at", "in", "if", "reg", "tied", "x", "7", "0x0", "-1", ":", ",", `"r.f:1"`, `"pc:16"`, `"at"`, `"("`, "\n"}
	met := map[api.Errno]int{}
	lines := tokens(sampleText)
	for i, line := range lines {
		for j := range len(line) + 1 {
			try := func(changed []string) {
				all := slices.Clone(lines)
				all[i] = changed
				var s []string
				for _, l := range all {
					s = append(s, strings.Join(l, " "))
				}
				_, e := agrees(t, strings.Join(s, "\n"))
				met[e]++
			}
			for _, x := range others {
				try(slices.Insert(slices.Clone(line), j, x))
				if j < len(line) {
					try(slices.Replace(slices.Clone(line), j, j+1, x))
				}
			}
			if j < len(line) {
				try(slices.Delete(slices.Clone(line), j, j+1))
				try(line[:j])
			}
		}
	}
	if met[api.OK] < 200 || met[api.ErrForm] < 5000 || met[api.ErrName] < 500 || met[api.ErrBad] < 200 {
		t.Error(met)
	}
}

// TestP10_2ByChance makes a few changes to descriptions by chance.
func TestP10_2ByChance(t *testing.T) {
	m := newMaker(2)
	met := map[api.Errno]int{}
	for range 6000 {
		lines := tokens(textOf(m.machine()))
		for range m.IntN(3) {
			lines = m.changed(lines)
		}
		s := m.laid(lines)
		if m.IntN(20) == 0 {
			at := m.IntN(len(s))
			s = s[:at] + pick(m, []string{"$", "\"", "0", "\n", "#", "-", "_"}) + s[at:]
		}
		_, e := agrees(t, s)
		met[e]++
	}
	if met[api.OK] < 1000 || met[api.ErrForm] < 1000 || met[api.ErrName] < 100 || met[api.ErrBad] < 100 {
		t.Error(met)
	}
}

// changed changes a line or a token.
func (m maker) changed(lines [][]string) [][]string {
	lines = slices.Clone(lines)
	i, j := m.IntN(len(lines)), m.IntN(len(lines))
	if len(lines[i]) == 0 {
		return lines
	}
	line := slices.Clone(lines[i])
	at := m.IntN(len(line))
	switch m.IntN(8) {
	case 0:
		return slices.Delete(lines, i, i+1)
	case 1:
		return slices.Insert(lines, j, line)
	case 2:
		lines[i], lines[j] = lines[j], lines[i]
		return lines
	case 3:
		line = slices.Delete(line, at, at+1)
	case 4:
		line = slices.Insert(line, at, m.token(lines))
	case 5:
		line[at] = m.names(1)[0]
	default:
		line[at] = m.token(lines)
	}
	lines[i] = line
	return lines
}

// token returns a token of the lines, mostly, or another one.
func (m maker) token(lines [][]string) string {
	line := pick(m, lines)
	if len(line) == 0 || m.IntN(4) == 0 {
		return pick(m, []string{"x", "0", "1", "-1", "16", "0xff", ":", "(", `"8:00"`, `""`, "reg", "in", "at"})
	}
	return pick(m, line)
}
