package cpu

import (
	"math"
	"strings"
	"testing"

	"timekeeper/api"
)

// tells: a step behind which all is as it was, but for the console, and the core is at the next one.
func tells(t *testing.T, c *Core, want string) {
	t.Helper()
	s := see(c)
	goes(t, c)
	s.console = want
	s.at++
	isSeen(t, c, s)
}

// asksAt: a step that asks that, behind which all is as it was, but the core is at the next one.
func asksAt(t *testing.T, c *Core, want api.Ask) {
	t.Helper()
	s := see(c)
	asks(t, c, want)
	s.at++
	isSeen(t, c, s)
}

// P21.2: tell gives the lowest byte of a register to the console, whatever byte it is.
func TestTell(t *testing.T) {
	regs := [8]uint32{0, 65, 255, 256 + 66, top, 0x01020380, 10, 1 << 31}
	told := "\x00A\xffB\xff\x80\n\x00"
	for a := range uint8(8) {
		c := primed(t, regs, api.Image{Size: 2, Code: []api.Instr{in(api.OpTell, a)}})
		tells(t, c, told[a:a+1])
	}
	code := []api.Instr{}
	for a := range uint8(8) {
		code = append(code, in(api.OpTell, a))
	}
	c := primed(t, regs, api.Image{Size: 2, Code: code})
	for n := range 8 {
		tells(t, c, told[:n+1])
	}
}

// P21.2: the console keeps the last MaxConsole bytes, and no other ones.
func TestConsoleKeepsTheLast(t *testing.T) {
	c := written(t, "size 0", "set r1 1", "tell r2", "add r2 r2 r1", "go 1")
	goesOn(t, c, 1)
	told := ""
	for n := range 3*api.MaxConsole + 5 {
		told += string([]byte{byte(n % 256)})
		tells(t, c, told[max(0, len(told)-api.MaxConsole):])
		goesOn(t, c, 2)
		switch n {
		case 0:
			consoleIs(t, c, 1, 0, 0)
		case 254:
			consoleIs(t, c, 255, 0, 254)
		case 255:
			consoleIs(t, c, 256, 0, 255)
		case 256:
			consoleIs(t, c, 256, 1, 0)
		case 511:
			consoleIs(t, c, 256, 0, 255)
		}
	}
	consoleIs(t, c, 256, 5, 4)
}

func consoleIs(t *testing.T, c *Core, count int, first, last byte) {
	t.Helper()
	if s := c.Console(); len(s) != count || s[0] != first || s[len(s)-1] != last {
		t.Fatalf("Console() has %d bytes, from %d to %d, want %d, from %d to %d", len(s), s[0], s[len(s)-1], count, first, last)
	}
}

// P21.2: one byte behind MaxConsole like ones is kept, and the first of them is not.
func TestConsoleDropsTheFirst(t *testing.T) {
	c := written(t, "size 0", "set r1 65", "set r2 66", "set r3 256", "tell r1", "tell r2", "less r4 r3 1", "end", "set r5 1", "add r4 r4 r5", "tell r2", "go 5")
	for len(c.Console()) < 256 {
		goes(t, c)
	}
	if s := c.Console(); s != "A"+strings.Repeat("B", 255) {
		t.Fatalf("Console() = %q", s)
	}
	for c.Console()[0] == 'A' {
		goes(t, c)
	}
	if s := c.Console(); s != strings.Repeat("B", 256) {
		t.Fatalf("Console() = %q", s)
	}
}

// P21.2: ask, with each What: the first registers tell of whom, what, how, and how long.
func TestAsk(t *testing.T) {
	for what := api.WhYield; what <= api.WhEnd; what++ {
		c := primed(t, [8]uint32{256, 9, 3, 7, 11, 12, 13, 14}, api.Image{Size: 2, Data: []byte{5}, Code: []api.Instr{in(api.OpAsk, uint8(what))}})
		asksAt(t, c, api.Ask{What: what, H: 256, V: 9, M: 3, Wait: 7})
		refuses(t, c, api.ErrState)
	}
}

// P21.2: Wait may be below 0; H, V and M may not.
func TestAskWaits(t *testing.T) {
	for _, c := range []struct {
		reg  uint32
		wait int64
	}{
		{0, 0}, {1, 1}, {1073741824, 1073741824}, {1073741825, 1073741825}, {1<<31 - 1, 1<<31 - 1},
		{1 << 31, -1 << 31}, {1<<31 + 1, -1<<31 + 1}, {top - 1, -2}, {top, -1},
	} {
		core := primed(t, [8]uint32{top, top - 1, 1 << 31, c.reg}, api.Image{Code: []api.Instr{in(api.OpAsk, 2)}})
		asksAt(t, core, api.Ask{What: api.WhSleep, H: top, V: top - 1, M: 1 << 31, Wait: c.wait})
	}
}

// P21.2: end asks WhEnd, and nothing that the registers tell.
func TestEnd(t *testing.T) {
	for _, regs := range sorts() {
		c := primed(t, regs, api.Image{Size: 1, Code: []api.Instr{in(api.OpEnd), in(api.OpNop)}})
		asksAt(t, c, api.Ask{What: 20})
		refuses(t, c, api.ErrState)
		answers(t, c, 0, 0, api.OK)
		turnsTo(t, c, 0, 0)
		refuses(t, c, api.ErrFault)
	}
}

// P21.2: what is asked and not answered is ErrState ahead of a fault; once answered, the fault is told.
func TestStateAheadOfFault(t *testing.T) {
	c := written(t, "size 0", "ask 1")
	asksAt(t, c, api.Ask{What: api.WhYield})
	refuses(t, c, api.ErrState)
	answers(t, c, 0, 0, api.OK)
	refuses(t, c, api.ErrFault)
}

// P21.3: registers 0 and 1 are the answer, and nothing else turns; the next step is done.
func TestAnswer(t *testing.T) {
	for _, c := range []struct {
		e    api.Errno
		want uint32
	}{
		{api.OK, 0}, {api.ErrArg, 1}, {api.ErrTimeout, 8}, {api.ErrFault, 15}, {16, 16}, {255, 255}, {256, 256}, {65536, 65536},
		{1<<31 - 1, 1<<31 - 1}, {1 << 31, 1 << 31}, {top, top}, {1 << 32, 0}, {1<<32 + 8, 8}, {1<<33 - 1, top}, {1<<40 + 5, 5},
		{-1, top}, {-2, top - 1}, {-1 << 31, 1 << 31}, {-1<<32 + 3, 3}, {-1 << 32, 0}, {math.MaxInt, top}, {math.MinInt, 0}, {math.MinInt + 9, 9},
	} {
		for _, v := range []uint32{0, 1, 65, 65536, 1<<31 - 1, 1 << 31, top} {
			core := primed(t, [8]uint32{3, 4, 5, 6, 7, 8, 9, top}, api.Image{Size: 1, Data: []byte{8}, Code: []api.Instr{in(api.OpAsk, 3), in(api.OpMove, 2, 0)}})
			asksAt(t, core, api.Ask{What: api.WhTake, H: 3, V: 4, M: 5, Wait: 6})
			s := see(core)
			answers(t, core, c.e, v, api.OK)
			s.regs[0], s.regs[1] = c.want, v
			isSeen(t, core, s)
			turnsTo(t, core, 2, c.want)
		}
	}
}

// P21.3: ErrState, where nothing waits for an answer: before any ask, behind other steps, behind an answer, behind a fault; then nothing turned.
func TestAnswerToNothing(t *testing.T) {
	c := written(t, "size 1", "set r0 9", "ask 1", "set r1 7", "end", "load r1 r0 0")
	idle := func() {
		t.Helper()
		before := see(c)
		for _, e := range []api.Errno{api.OK, api.ErrState, -1, math.MaxInt} {
			answers(t, c, e, 77, api.ErrState)
			isSeen(t, c, before)
		}
	}
	idle()
	goes(t, c)
	idle()
	asks(t, c, api.Ask{What: api.WhYield, H: 9})
	answers(t, c, 2, 3, api.OK)
	idle()
	turnsTo(t, c, 1, 7)
	idle()
	asks(t, c, api.Ask{What: api.WhEnd})
	refuses(t, c, api.ErrState)
	answers(t, c, 0, 4, api.OK)
	idle()
	refuses(t, c, api.ErrFault)
	idle()
	isSeen(t, c, state{regs: [8]uint32{0, 4}, at: 4, bytes: []byte{0}})
}

// The chapter's examples, in its order.
func TestExamples(t *testing.T) {
	c := written(t, "size 4", "set r1 65", "put r1 r0 2", "tell r1", "ask 18", "load r2 r0 1")
	goesOn(t, c, 3)
	asks(t, c, api.Ask{What: api.WhRank, H: 0, V: 65})
	refuses(t, c, api.ErrState)
	answers(t, c, 8, 7, api.OK)
	isSeen(t, c, state{regs: [8]uint32{8, 7}, at: 4, bytes: []byte{0, 0, 65, 0}, console: "A"})
	refuses(t, c, api.ErrFault)
	isSeen(t, c, state{regs: [8]uint32{8, 7}, at: 4, bytes: []byte{0, 0, 65, 0}, console: "A"})
}
