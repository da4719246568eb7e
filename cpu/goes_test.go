package cpu

import (
	"testing"

	"timekeeper/api"
)

// goesTo: a step behind which all is as it was, but for where the core is.
func goesTo(t *testing.T, c *Core, want int) {
	t.Helper()
	s := see(c)
	goes(t, c)
	s.at = want
	isSeen(t, c, s)
}

// pairs of numbers, and which of the comparisons hold of them.
type pair struct {
	a, b                     uint32
	same, other, less, below bool
}

func pairs() []pair {
	return []pair{
		{0, 0, true, false, false, false},
		{0, 1, false, true, true, true},
		{1, 0, false, true, false, false},
		{top, 0, false, true, true, false},
		{0, top, false, true, false, true},
		{top, top, true, false, false, false},
		{top - 1, top, false, true, true, true},
		{1 << 31, 1<<31 - 1, false, true, true, false},
		{1<<31 - 1, 1 << 31, false, true, false, true},
		{1 << 31, 1 << 31, true, false, false, false},
		{5, 65536 + 5, false, true, true, true},
	}
}

func (p pair) holds(o api.Op) bool {
	switch o {
	case api.OpSame:
		return p.same
	case api.OpOther:
		return p.other
	case api.OpLess:
		return p.less
	}
	return p.below
}

// P21.2: each comparison goes further where it holds, and to the next one where it does not.
func TestCompare(t *testing.T) {
	steps := []struct {
		c    uint8
		less int
	}{{0, 0}, {1, 1}, {2, 2}, {126, 126}, {127, 127}, {128, -128}, {129, -127}, {254, -2}, {255, -1}}
	for o := api.OpSame; o <= api.OpBelow; o++ {
		for _, p := range pairs() {
			for _, s := range steps {
				c := primed(t, [8]uint32{3: p.a, 6: p.b}, api.Image{Size: 4, Code: []api.Instr{in(o, 3, 6, s.c)}})
				want := ahead + 1
				if p.holds(o) {
					want += s.less
				}
				goesTo(t, c, want)
			}
		}
	}
}

// P21.2: each register can be compared with each, itself too.
func TestCompareEachRegister(t *testing.T) {
	regs := [8]uint32{0, 1, 2, 3, 1 << 31, top - 1, top, 2}
	for a := range uint8(8) {
		for b := range uint8(8) {
			for o := api.OpSame; o <= api.OpBelow; o++ {
				c := primed(t, regs, api.Image{Code: []api.Instr{in(o, a, b, 100)}})
				want := ahead + 1
				if compare(o, int64(regs[a]), int64(regs[b])) {
					want += 100
				}
				goesTo(t, c, want)
			}
		}
	}
}

// P21.2: to before the first instruction the step itself is no fault; the one there is, and turns nothing.
func TestCompareToBeforeTheFirst(t *testing.T) {
	c := written(t, "size 0", "same r0 r0 -2", "end")
	goesTo(t, c, -1)
	refuses(t, c, api.ErrFault)
	c = written(t, "size 0", "same r0 r0 -128", "end")
	goesTo(t, c, -127)
	refuses(t, c, api.ErrFault)
	c = written(t, "size 0", "same r0 r0 -1", "end")
	goesTo(t, c, 0)
	goesTo(t, c, 0)
	c = written(t, "size 0", "nop", "same r0 r0 -2", "end")
	goesTo(t, c, 1)
	goesTo(t, c, 0)
	goesTo(t, c, 1)
}

// P21.2: behind the last one likewise; a comparison that does not hold goes there as well.
func TestCompareToBehindTheLast(t *testing.T) {
	c := written(t, "size 0", "same r0 r0 1", "end", "end")
	goesTo(t, c, 2)
	asks(t, c, api.Ask{What: api.WhEnd})
	c = written(t, "size 0", "same r0 r0 2", "end", "end")
	goesTo(t, c, 3)
	refuses(t, c, api.ErrFault)
	c = written(t, "size 0", "same r0 r0 127")
	goesTo(t, c, 128)
	refuses(t, c, api.ErrFault)
	c = written(t, "size 0", "other r0 r0 -1")
	goesTo(t, c, 1)
	refuses(t, c, api.ErrFault)
}

// P21.2: go, to any place, also outside: then the step there is the fault.
func TestGo(t *testing.T) {
	for _, c := range []struct {
		a, b uint8
		want int
	}{
		{0, 0, 0}, {0, 1, 1}, {0, 2, 2}, {0, 127, 127}, {0, 128, 128}, {0, 255, 255}, {1, 0, 256}, {1, 1, 257},
		{3, 255, 1023}, {4, 0, 1024}, {127, 255, 32767}, {128, 0, 32768}, {255, 0, 65280}, {255, 255, 65535},
	} {
		core := made(t, api.Image{Size: 2, Code: []api.Instr{in(api.OpGo, c.a, c.b), in(api.OpNop)}})
		goesTo(t, core, c.want)
		switch c.want {
		case 0:
			goesTo(t, core, 0)
		case 1:
			goesTo(t, core, 2)
		default:
			refuses(t, core, api.ErrFault)
		}
	}
}

// P21.2: go tells where, and not how much further.
func TestGoFromElsewhere(t *testing.T) {
	code := make([]api.Instr, api.MaxCode)
	code[0], code[600], code[api.MaxCode-1] = in(api.OpGo, 2, 88), in(api.OpGo, 3, 255), in(api.OpGo, 2, 88)
	c := made(t, api.Image{Code: code})
	for _, want := range []int{600, 1023, 600, 1023} {
		goesTo(t, c, want)
	}
}

// P21.2: as many instructions as may be are done, one by one; behind the last one is none.
func TestToTheLastInstruction(t *testing.T) {
	c := made(t, api.Image{Code: make([]api.Instr, api.MaxCode)})
	for at := range api.MaxCode {
		goesTo(t, c, at+1)
	}
	refuses(t, c, api.ErrFault)
}

// P21.2: an image without code has no instruction at all.
func TestNoCode(t *testing.T) {
	c := made(t, api.Image{Size: 3, Data: []byte{1}})
	refuses(t, c, api.ErrFault)
	isSeen(t, c, state{bytes: []byte{1, 0, 0}})
	answers(t, c, 0, 0, api.ErrState)
}
