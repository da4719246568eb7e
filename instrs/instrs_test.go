package instrs

import (
	"fmt"
	"slices"
	"strings"
	"testing"

	"timekeeper/api"
)

// edges are the bytes at which something turns, and their neighbours.
var edges = []uint8{0, 1, 2, 6, 7, 8, 9, 19, 20, 21, 22, 23, 126, 127, 128, 129, 253, 254, 255}

// words are the chapter's, in the order of the Ops' numbers.
var words = strings.Fields("nop set move add sub mul and or xor left right load store byte put same other less below go tell ask end")

// expected tells the chapter's table once more, Op by Op, as plainly as can be; empty, if the instruction may not be.
func expected(x api.Instr) string {
	if int(x.Op) >= len(words) {
		return ""
	}
	word := words[x.Op]
	a, b, c := int(x.A), int(x.B), int(x.C)
	switch x.Op {
	case api.OpNop, api.OpEnd:
		if a == 0 && b == 0 && c == 0 {
			return word
		}
	case api.OpSet:
		if a <= 7 {
			return fmt.Sprintf("%s r%d %d", word, a, 256*b+c)
		}
	case api.OpMove:
		if a <= 7 && b <= 7 && c == 0 {
			return fmt.Sprintf("%s r%d r%d", word, a, b)
		}
	case api.OpLoad, api.OpStore, api.OpByte, api.OpPut:
		if a <= 7 && b <= 7 {
			return fmt.Sprintf("%s r%d r%d %d", word, a, b, c)
		}
	case api.OpSame, api.OpOther, api.OpLess, api.OpBelow:
		if a <= 7 && b <= 7 {
			return fmt.Sprintf("%s r%d r%d %d", word, a, b, int8(x.C))
		}
	case api.OpGo:
		if c == 0 {
			return fmt.Sprintf("%s %d", word, 256*a+b)
		}
	case api.OpTell:
		if a <= 7 && b == 0 && c == 0 {
			return fmt.Sprintf("%s r%d", word, a)
		}
	case api.OpAsk:
		if a >= 1 && a <= int(api.WhEnd) && b == 0 && c == 0 {
			return fmt.Sprintf("%s %d", word, a)
		}
	default:
		if a <= 7 && b <= 7 && c <= 7 {
			return fmt.Sprintf("%s r%d r%d r%d", word, a, b, c)
		}
	}
	return ""
}

// checkAll holds everything that the package answers of one instruction against what the chapter says of it.
func checkAll(t *testing.T, x api.Instr) {
	t.Helper()
	want := expected(x)
	may := want != ""
	if got := Check(x); got != may {
		t.Errorf("Check(%v) = %v", x, got)
	}
	bytes := Put(x)
	if bytes != [4]byte{byte(x.Op), x.A, x.B, x.C} {
		t.Errorf("Put(%v) = %v", x, bytes)
	}
	wantText, wantGot, textErr, getErr := want, x, api.OK, api.OK
	if !may {
		wantText, wantGot, textErr, getErr = "", api.Instr{}, api.ErrArg, api.ErrForm
	}
	if got, e := Get(bytes); got != wantGot || e != getErr {
		t.Errorf("Get(%v) = %v, %d, want %v, %d", bytes, got, e, wantGot, getErr)
	}
	if got, e := Text(x); got != wantText || e != textErr {
		t.Errorf("Text(%v) = %q, %d, want %q, %d", x, got, e, wantText, textErr)
	}
	if may {
		if got, e := Parse(want); got != x || e != api.OK {
			t.Errorf("Parse(%q) = %v, %d, want %v", want, got, e, x)
		}
	}
}

// P2.1 to P2.4: every Op that there is, and every one that there is not, with all edges in all fields.
func TestEveryOp(t *testing.T) {
	for op := range 256 {
		for _, a := range edges {
			for _, b := range edges {
				for _, c := range edges {
					checkAll(t, api.Instr{Op: api.Op(op), A: a, B: b, C: c})
				}
			}
		}
		if t.Failed() {
			return
		}
	}
}

// P2.1: each field alone, at every byte that it can be.
func TestEveryByte(t *testing.T) {
	for op := range 256 {
		for n := range 256 {
			checkAll(t, api.Instr{Op: api.Op(op), A: uint8(n)})
			checkAll(t, api.Instr{Op: api.Op(op), B: uint8(n)})
			checkAll(t, api.Instr{Op: api.Op(op), C: uint8(n)})
			checkAll(t, api.Instr{Op: api.Op(op), A: 1, B: uint8(n)})
			checkAll(t, api.Instr{Op: api.Op(op), A: 1, C: uint8(n)})
		}
	}
}

// P2.3: numbers of two bytes, all of them.
func TestEveryWideNumber(t *testing.T) {
	for n := range 65536 {
		checkAll(t, api.Instr{Op: api.OpSet, A: 7, B: uint8(n >> 8), C: uint8(n)})
		checkAll(t, api.Instr{Op: api.OpGo, A: uint8(n >> 8), B: uint8(n)})
	}
}

// P2.1: the Ops' edges by name, so that the numbers of package api are held, too.
func TestCheck(t *testing.T) {
	may := []api.Instr{
		{}, {Op: api.OpNop}, {Op: api.OpEnd},
		{Op: api.OpSet, A: 7, B: 255, C: 255}, {Op: api.OpMove, A: 7, B: 7}, {Op: api.OpRight, A: 7, B: 7, C: 7},
		{Op: api.OpLoad, A: 7, B: 7, C: 255}, {Op: api.OpSame, A: 7, B: 7, C: 128}, {Op: api.OpGo, A: 255, B: 255},
		{Op: api.OpTell, A: 7}, {Op: api.OpAsk, A: uint8(api.WhYield)}, {Op: api.OpAsk, A: uint8(api.WhEnd)},
	}
	for _, x := range may {
		if !Check(x) {
			t.Errorf("Check(%v) = false", x)
		}
	}
	not := []api.Instr{
		{Op: api.OpEnd + 1}, {Op: 255}, {C: 1}, {Op: api.OpEnd, A: 1},
		{Op: api.OpSet, A: 8}, {Op: api.OpMove, A: 8}, {Op: api.OpMove, B: 8}, {Op: api.OpMove, C: 1},
		{Op: api.OpAdd, A: 8}, {Op: api.OpAdd, B: 8}, {Op: api.OpAdd, C: 8}, {Op: api.OpLoad, B: 8}, {Op: api.OpBelow, A: 8},
		{Op: api.OpGo, C: 1}, {Op: api.OpTell, A: 8}, {Op: api.OpTell, A: 1, B: 1},
		{Op: api.OpAsk}, {Op: api.OpAsk, A: uint8(api.WhEnd) + 1}, {Op: api.OpAsk, A: 255}, {Op: api.OpAsk, A: 1, C: 1},
	}
	for _, x := range not {
		if Check(x) {
			t.Errorf("Check(%v) = true", x)
		}
	}
}

// P2.2: Put does not ask whether it may be.
func TestPutOfNone(t *testing.T) {
	for _, x := range []api.Instr{{Op: 200, A: 201, B: 202, C: 203}, {A: 1, B: 2, C: 3}, {Op: api.OpAsk}} {
		if got := Put(x); got != [4]byte{byte(x.Op), x.A, x.B, x.C} {
			t.Errorf("Put(%v) = %v", x, got)
		}
	}
}

// refused tells an error of each text that is read.
func refused(t *testing.T, texts ...string) {
	t.Helper()
	for _, s := range texts {
		if x, e := Parse(s); x != (api.Instr{}) || e != api.ErrForm {
			t.Errorf("Parse(%q) = %v, %d, want ErrForm", s, x, e)
		}
	}
}

// P2.3: texts that are nearly those of an instruction.
func TestParseRefuses(t *testing.T) {
	refused(t, "", " ", "  ", "r1", "1", "-", "nothing", "no", "nopp", "NOP", "Nop", "nop\n", "nop\x00", "\tnop", "nop\t", "n\u00f6p", "\xff")
	for _, x := range []api.Instr{{}, {Op: api.OpSet, A: 1, C: 1}, {Op: api.OpMove, A: 1, B: 2}, {Op: api.OpXor, A: 1, B: 2, C: 3}, {Op: api.OpPut, A: 1, B: 2, C: 3}, {Op: api.OpLess, A: 1, B: 2, C: 3}, {Op: api.OpGo, B: 1}, {Op: api.OpTell, A: 1}, {Op: api.OpAsk, A: 1}, {Op: api.OpEnd}} {
		s, e := Text(x)
		if e != api.OK {
			t.Fatalf("Text(%v): %d", x, e)
		}
		refused(t, s+" ", " "+s, s+" 0", s+" r0", s+" 0 0 0", s+"\n", s+"\x00", strings.ToUpper(s), strings.ToUpper(s[:1])+s[1:])
		for i := range s {
			if s[i] == ' ' {
				refused(t, s[:i], s[:i]+" "+s[i:], s[:i]+s[i+1:], s[:i]+"\t"+s[i+1:], s[:i+1])
			}
		}
	}
}

// P2.3: registers.
func TestParseRegisters(t *testing.T) {
	for _, r := range []string{"r8", "r9", "r10", "r00", "r01", "r07", "r", "R1", "1", "rr1", "r-1", "r-0", "r+1", "r 1", "r1r", "r1.", "r0x1", "r1_0", "r\u0661", "r8589934593", "r99999999999999999999"} {
		refused(t, "tell "+r, "set "+r+" 1", "move r1 "+r, "move "+r+" r1", "add r1 r2 "+r, "load r1 "+r+" 1", "same "+r+" r1 1")
	}
	for n := range 8 {
		if x, e := Parse(fmt.Sprintf("tell r%d", n)); x != (api.Instr{Op: api.OpTell, A: uint8(n)}) || e != api.OK {
			t.Errorf("tell r%d: %v, %d", n, x, e)
		}
	}
}

// P2.3: numbers, each kind at its edges.
func TestParseNumbers(t *testing.T) {
	strange := []string{"", "-", "+1", "-0", "+0", "00", "01", "-01", "1.", "1e1", "0x1", "1_0", "a", "r1", "--1", "1-", "\u0661", "99999999999999999999", "-99999999999999999999", "4294967297", "18446744073709551617"}
	cases := []struct {
		ahead       string
		least, most int
	}{
		{"set r1 ", 0, 65535},
		{"go ", 0, 65535},
		{"load r1 r2 ", 0, 255},
		{"store r1 r2 ", 0, 255},
		{"byte r1 r2 ", 0, 255},
		{"put r1 r2 ", 0, 255},
		{"same r1 r2 ", -128, 127},
		{"other r1 r2 ", -128, 127},
		{"less r1 r2 ", -128, 127},
		{"below r1 r2 ", -128, 127},
		{"ask ", 1, 20},
	}
	for _, c := range cases {
		for _, s := range strange {
			refused(t, c.ahead+s)
		}
		for _, n := range []int{-65536, -65535, -32768, -256, -255, -129, -128, -127, -1, 0, 1, 2, 19, 20, 21, 127, 128, 129, 254, 255, 256, 257, 32767, 32768, 65534, 65535, 65536, 65537} {
			s := c.ahead + fmt.Sprint(n)
			x, e := Parse(s)
			if n < c.least || n > c.most {
				refused(t, s)
			} else if expected(x) != s || e != api.OK {
				t.Errorf("Parse(%q) = %v, %d", s, x, e)
			}
		}
	}
}

// P2.3: each word is one Op's, and no other word is one's.
func TestWords(t *testing.T) {
	if len(words) != int(api.OpEnd)+1 {
		t.Fatalf("%d words", len(words))
	}
	for op, f := range forms {
		if f.word != words[op] {
			t.Errorf("the word of %d is %q, want %q", op, f.word, words[op])
		}
	}
	if sorted := slices.Compact(slices.Sorted(slices.Values(words))); len(sorted) != len(words) {
		t.Errorf("%d unlike words of %d", len(sorted), len(words))
	}
}

// R1: long texts end, too.
func TestParseLong(t *testing.T) {
	many := 1 << 20
	refused(t, strings.Repeat(" ", many), strings.Repeat("nop ", many), "set r1 "+strings.Repeat("0", many)+"1", "set r1 "+strings.Repeat("9", many), strings.Repeat("n", many), "tell "+strings.Repeat("r", many))
}

// The chapter's examples.
func TestExamples(t *testing.T) {
	set := api.Instr{Op: api.OpSet, A: 1, B: 1, C: 44}
	if got := Put(set); got != [4]byte{1, 1, 1, 44} {
		t.Errorf("Put(set r1 300) = %v", got)
	}
	if got, e := Get([4]byte{1, 1, 1, 44}); got != set || e != api.OK {
		t.Errorf("Get(1 1 1 44) = %v, %d", got, e)
	}
	for _, b := range [][4]byte{{23, 0, 0, 0}, {0, 1, 0, 0}, {3, 8, 0, 0}} {
		if got, e := Get(b); got != (api.Instr{}) || e != api.ErrForm {
			t.Errorf("Get(%v) = %v, %d", b, got, e)
		}
	}
	texts := []struct {
		x    api.Instr
		want string
		e    api.Errno
	}{
		{api.Instr{Op: api.OpSame, A: 1, B: 2, C: 253}, "same r1 r2 -3", api.OK},
		{api.Instr{Op: api.OpGo, A: 1}, "go 256", api.OK},
		{api.Instr{Op: api.OpAsk, A: 20}, "ask 20", api.OK},
		{api.Instr{Op: api.OpAsk}, "", api.ErrArg},
		{api.Instr{Op: api.OpGo, C: 1}, "", api.ErrArg},
	}
	for _, c := range texts {
		if got, e := Text(c.x); got != c.want || e != c.e {
			t.Errorf("Text(%v) = %q, %d", c.x, got, e)
		}
	}
	parsed := []struct {
		s    string
		want api.Instr
	}{
		{"load r7 r0 255", api.Instr{Op: api.OpLoad, A: 7, C: 255}},
		{"set r1 65535", api.Instr{Op: api.OpSet, A: 1, B: 255, C: 255}},
		{"same r0 r0 -128", api.Instr{Op: api.OpSame, C: 128}},
	}
	for _, c := range parsed {
		if got, e := Parse(c.s); got != c.want || e != api.OK {
			t.Errorf("Parse(%q) = %v, %d", c.s, got, e)
		}
	}
	refused(t, "set r8 1", "set r1 65536", "set r1 01", "same r0 r0 128", "same r0 r0 -0", "nop 1", "Nop", "nop ", "move r1  r2")
}
