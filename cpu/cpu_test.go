package cpu

import (
	"bytes"
	"math"
	"slices"
	"strings"
	"testing"

	"timekeeper/api"
	"timekeeper/images"
	"timekeeper/units"
)

const top = 1<<32 - 1

// state is all that a core tells of itself.
type state struct {
	regs    [8]uint32
	at      int
	bytes   []byte
	console string
}

func see(c *Core) state {
	return state{c.Regs(), c.At(), c.Bytes(), c.Console()}
}

func isSeen(t *testing.T, c *Core, want state) {
	t.Helper()
	got := see(c)
	if got.regs != want.regs {
		t.Fatalf("Regs() = %v, want %v", got.regs, want.regs)
	}
	if got.at != want.at {
		t.Fatalf("At() = %d, want %d", got.at, want.at)
	}
	if !bytes.Equal(got.bytes, want.bytes) {
		t.Fatalf("Bytes() = %v, want %v", got.bytes, want.bytes)
	}
	if got.console != want.console {
		t.Fatalf("Console() = %q, want %q", got.console, want.console)
	}
}

func made(t *testing.T, m api.Image) *Core {
	t.Helper()
	c, e := New(m)
	if e != api.OK || c == nil {
		t.Fatalf("New(%v): %v, error %d", m, c, e)
	}
	return c
}

// written is a core of an image as people write it.
func written(t *testing.T, lines ...string) *Core {
	t.Helper()
	m, line, e := images.Parse(strings.Join(lines, "\n"))
	if e != api.OK {
		t.Fatalf("line %d: error %d", line, e)
	}
	return made(t, m)
}

func in(o api.Op, abc ...uint8) api.Instr {
	fields := append(abc, 0, 0, 0)
	return api.Instr{Op: o, A: fields[0], B: fields[1], C: fields[2]}
}

// goes: a step that asks nothing.
func goes(t *testing.T, c *Core) {
	t.Helper()
	if asks, a, e := c.Step(); asks || a != (api.Ask{}) || e != api.OK {
		t.Fatalf("Step() = %t, %v, error %d", asks, a, e)
	}
}

func goesOn(t *testing.T, c *Core, steps int) {
	t.Helper()
	for range steps {
		goes(t, c)
	}
}

func asks(t *testing.T, c *Core, want api.Ask) {
	t.Helper()
	if asks, a, e := c.Step(); !asks || a != want || e != api.OK {
		t.Fatalf("Step() = %t, %v, error %d, want %v", asks, a, e, want)
	}
}

// refuses: a step that answers an error, nothing else, and turns nothing, how often soever.
func refuses(t *testing.T, c *Core, want api.Errno) {
	t.Helper()
	before := see(c)
	for range 3 {
		if asks, a, e := c.Step(); asks || a != (api.Ask{}) || e != want {
			t.Fatalf("Step() = %t, %v, error %d, want error %d", asks, a, e, want)
		}
		isSeen(t, c, before)
	}
}

func answers(t *testing.T, c *Core, e api.Errno, v uint32, want api.Errno) {
	t.Helper()
	if got := c.Answer(e, v); got != want {
		t.Fatalf("Answer(%d, %d): error %d, want %d", e, v, got, want)
	}
}

// ahead is how many instructions of a primed core's code bring its registers to their values.
const ahead = 13

// primed is a core whose registers have these values, at the first one of the instructions, which has the place ahead: the values come as answers, so that neither region nor console is touched.
func primed(t *testing.T, regs [8]uint32, m api.Image) *Core {
	t.Helper()
	var code []api.Instr
	for i := 7; i > 1; i-- {
		code = append(code, in(api.OpAsk, 1), in(api.OpMove, uint8(i), 1))
	}
	m.Code = slices.Concat(code, []api.Instr{in(api.OpAsk, 1)}, m.Code)
	c := made(t, m)
	for i := 7; i > 1; i-- {
		c.Step()
		answers(t, c, 0, regs[i], api.OK)
		goes(t, c)
	}
	c.Step()
	answers(t, c, api.Errno(regs[0]), regs[1], api.OK)
	if c.Regs() != regs || c.At() != ahead {
		t.Fatalf("primed: %v at %d", c.Regs(), c.At())
	}
	return c
}

// sorts of registers: what goes round, and what has a sign, is among them.
func sorts() [][8]uint32 {
	return [][8]uint32{
		{},
		{top, top, top, top, top, top, top, top},
		{0, 1, 2, 3, 4, 5, 6, 7},
		{1 << 31, 1<<31 - 1, top, 1, 0, 65536, 33, 0x01020304},
		{9, 9, 1 << 31, 1 << 31, top - 1, 31, 32, 65535},
	}
}

// turnsTo: a step behind which all is as it was, but for the register, and the core is at the next one.
func turnsTo(t *testing.T, c *Core, reg uint8, want uint32) {
	t.Helper()
	s := see(c)
	goes(t, c)
	s.regs[reg] = want
	s.at++
	isSeen(t, c, s)
}

// P21.1: how a core begins.
func TestNewBegins(t *testing.T) {
	full := bytes.Repeat([]byte{1, 255}, api.MaxRegion/2)
	for _, c := range []struct {
		size int
		data []byte
		code []api.Instr
	}{
		{0, nil, nil},
		{0, []byte{}, []api.Instr{}},
		{1, nil, []api.Instr{in(api.OpEnd)}},
		{1, []byte{7}, nil},
		{6, []byte{1, 2, 3}, []api.Instr{in(api.OpSet, 7, 255, 255)}},
		{6, []byte{0, 0, 0, 0, 0, 9}, nil},
		{api.MaxRegion - 1, []byte{5}, nil},
		{api.MaxRegion, nil, nil},
		{api.MaxRegion, full, make([]api.Instr, api.MaxCode)},
	} {
		want := state{bytes: make([]byte, c.size)}
		copy(want.bytes, c.data)
		isSeen(t, made(t, api.Image{Size: c.size, Data: c.data, Code: c.code}), want)
	}
}

// P21.1: images that may not be, each for its own reason.
func TestNewRefuses(t *testing.T) {
	for _, m := range []api.Image{
		{Size: -1},
		{Size: math.MinInt},
		{Size: math.MinInt32},
		{Size: api.MaxRegion + 1},
		{Size: math.MaxInt},
		{Size: 1 << 32},
		{Data: []byte{0}},
		{Size: 3, Data: []byte{1, 2, 3, 4}},
		{Size: api.MaxRegion, Data: make([]byte, api.MaxRegion+1)},
		{Size: api.MaxRegion + 1, Data: make([]byte, api.MaxRegion+1)},
		{Code: make([]api.Instr, api.MaxCode+1)},
		{Size: -1, Data: []byte{1}, Code: []api.Instr{in(23)}},
	} {
		if c, e := New(m); c != nil || e != api.ErrArg {
			t.Errorf("New(size %d, %d bytes, %d instructions): %v, error %d", m.Size, len(m.Data), len(m.Code), c, e)
		}
	}
}

// P21.1: one instruction that may not be is enough, wherever it stands.
func TestNewRefusesInstructions(t *testing.T) {
	for _, x := range []api.Instr{
		in(23), in(255), in(api.OpNop, 1), in(api.OpNop, 0, 0, 1), in(api.OpSet, 8), in(api.OpSet, 255, 1, 1),
		in(api.OpMove, 8, 0), in(api.OpMove, 0, 8), in(api.OpMove, 0, 0, 1),
		in(api.OpAdd, 8, 0, 0), in(api.OpSub, 0, 8, 0), in(api.OpMul, 0, 0, 8), in(api.OpAnd, 8, 8, 8),
		in(api.OpOr, 255, 0, 0), in(api.OpXor, 0, 255, 0), in(api.OpLeft, 0, 0, 255), in(api.OpRight, 0, 0, 8),
		in(api.OpLoad, 8, 0, 0), in(api.OpStore, 0, 8, 0), in(api.OpByte, 8, 0, 255), in(api.OpPut, 0, 255, 0),
		in(api.OpSame, 8, 0, 0), in(api.OpOther, 0, 8, 0), in(api.OpLess, 8, 0, 128), in(api.OpBelow, 0, 9, 127),
		in(api.OpGo, 0, 0, 1), in(api.OpTell, 8), in(api.OpTell, 0, 1), in(api.OpTell, 0, 0, 1),
		in(api.OpAsk), in(api.OpAsk, 21), in(api.OpAsk, 255), in(api.OpAsk, 1, 1), in(api.OpAsk, 1, 0, 1),
		in(api.OpEnd, 1), in(api.OpEnd, 0, 1), in(api.OpEnd, 0, 0, 1),
	} {
		for _, place := range []int{0, 1, 2} {
			code := []api.Instr{in(api.OpEnd), in(api.OpEnd), in(api.OpEnd)}
			code[place] = x
			if c, e := New(api.Image{Size: 4, Code: code}); c != nil || e != api.ErrArg {
				t.Errorf("New(%v at %d): %v, error %d", x, place, c, e)
			}
		}
	}
	last := make([]api.Instr, api.MaxCode)
	last[api.MaxCode-1] = in(23)
	if c, e := New(api.Image{Code: last}); c != nil || e != api.ErrArg {
		t.Errorf("New(the last one of all may not be): %v, error %d", c, e)
	}
}

// P21.1: an image may be just where images.Check tells so.
func TestNewAsChecked(t *testing.T) {
	for o := range 256 {
		for _, a := range []uint8{0, 1, 7, 8, 20, 21, 127, 128, 255} {
			for _, b := range []uint8{0, 1, 7, 8, 255} {
				for _, c := range []uint8{0, 1, 7, 8, 128, 255} {
					m := api.Image{Size: 2, Data: []byte{3}, Code: []api.Instr{in(api.OpNop), in(api.Op(o), a, b, c)}}
					core, e := New(m)
					if may := images.Check(m); may != (e == api.OK) || may != (core != nil) {
						t.Fatalf("New(%v): %v, error %d", m, core, e)
					}
				}
			}
		}
	}
}

// P21.2: nop changes nothing but where the core is.
func TestNop(t *testing.T) {
	for _, regs := range sorts() {
		c := primed(t, regs, api.Image{Size: 4, Data: []byte{9}, Code: []api.Instr{in(api.OpNop), in(api.OpNop)}})
		turnsTo(t, c, 0, regs[0])
		turnsTo(t, c, 7, regs[7])
		refuses(t, c, api.ErrFault)
	}
}

// P21.2: set tells all 32 bits of one register.
func TestSet(t *testing.T) {
	for _, regs := range sorts() {
		for a := range uint8(8) {
			for _, n := range []struct {
				b, c uint8
				want uint32
			}{
				{0, 0, 0}, {0, 1, 1}, {0, 127, 127}, {0, 128, 128}, {0, 255, 255}, {1, 0, 256}, {1, 44, 300},
				{127, 255, 32767}, {128, 0, 32768}, {255, 0, 65280}, {255, 254, 65534}, {255, 255, 65535},
			} {
				c := primed(t, regs, api.Image{Size: 4, Code: []api.Instr{in(api.OpSet, a, n.b, n.c)}})
				turnsTo(t, c, a, n.want)
			}
		}
	}
}

// P21.2: move, of each register to each, itself too.
func TestMove(t *testing.T) {
	for _, regs := range sorts() {
		for a := range uint8(8) {
			for b := range uint8(8) {
				c := primed(t, regs, api.Image{Size: 4, Code: []api.Instr{in(api.OpMove, a, b)}})
				turnsTo(t, c, a, regs[b])
			}
		}
	}
}

// P21.2: what is made of two numbers, written out.
func TestReckon(t *testing.T) {
	for _, c := range []struct {
		o          api.Op
		b, c, want uint32
	}{
		{api.OpAdd, 2, 3, 5}, {api.OpAdd, top, 1, 0}, {api.OpAdd, top, top, top - 1}, {api.OpAdd, 0, 0, 0},
		{api.OpSub, 5, 3, 2}, {api.OpSub, 3, 5, top - 1}, {api.OpSub, 0, 1, top}, {api.OpSub, 0, top, 1}, {api.OpSub, top, top, 0},
		{api.OpMul, 6, 7, 42}, {api.OpMul, 65536, 65536, 0}, {api.OpMul, top, top, 1}, {api.OpMul, top, 2, top - 1},
		{api.OpAnd, 12, 10, 8}, {api.OpAnd, top, 0x80000001, 0x80000001}, {api.OpAnd, top, 0, 0},
		{api.OpOr, 12, 10, 14}, {api.OpOr, 1 << 31, 1, 0x80000001}, {api.OpOr, top, 0, top},
		{api.OpXor, 12, 10, 6}, {api.OpXor, top, top, 0}, {api.OpXor, top, 1, top - 1},
		{api.OpLeft, 1, 4, 16}, {api.OpLeft, 1, 31, 1 << 31}, {api.OpLeft, 1, 32, 1}, {api.OpLeft, 3, 31, 1 << 31}, {api.OpLeft, 1, top, 1 << 31},
		{api.OpRight, 16, 4, 1}, {api.OpRight, top, 31, 1}, {api.OpRight, 1 << 31, 31, 1}, {api.OpRight, 7, 32, 7}, {api.OpRight, 3, 1, 1},
	} {
		core := primed(t, [8]uint32{0, 0, 0, 7, c.b, c.c}, api.Image{Size: 4, Code: []api.Instr{in(c.o, 3, 4, 5)}})
		turnsTo(t, core, 3, c.want)
	}
}

// P21.2: which of the registers are taken, and which one turns, also where they are the same.
func TestReckonOfEachRegister(t *testing.T) {
	for o := api.OpAdd; o <= api.OpRight; o++ {
		for _, regs := range sorts() {
			for a := range uint8(8) {
				for b := range uint8(8) {
					for c := range uint8(8) {
						core := primed(t, regs, api.Image{Size: 1, Code: []api.Instr{in(o, a, b, c)}})
						want, _ := units.Do(o, regs[b], regs[c])
						turnsTo(t, core, a, want)
					}
				}
			}
		}
	}
}

// P21.2: registers are the same in all three fields.
func TestReckonOfItself(t *testing.T) {
	c := written(t, "size 0", "set r1 3", "add r1 r1 r1", "mul r1 r1 r1", "left r1 r1 r1", "sub r1 r1 r1")
	goesOn(t, c, 1)
	for _, want := range []uint32{6, 36, 36 << 4, 0} {
		turnsTo(t, c, 1, want)
	}
}
