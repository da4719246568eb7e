package cpu

import (
	"bytes"
	"testing"

	"timekeeper/api"
)

const round = 1 << 32 // where a number of 32 bits goes round

// plain is a plain reading of the chapter: numbers are wide ones that are cut off, bytes a list that is looked through, the console all that was told.
type plain struct {
	regs  [8]int64
	at    int
	bytes []byte
	code  []api.Instr
	told  []byte
	asked bool
}

// plainOf is a core of an image that may be.
func plainOf(m api.Image) *plain {
	p := &plain{code: append([]api.Instr{}, m.Code...), bytes: make([]byte, m.Size)}
	copy(p.bytes, m.Data)
	return p
}

// signed is a number as one that may be below 0.
func signed(n int64) int64 {
	if n >= round/2 {
		return n - round
	}
	return n
}

// bitwise makes a number of both numbers' bits, one by one.
func bitwise(a, b int64, of func(x, y int64) bool) int64 {
	sum, worth := int64(0), int64(1)
	for range 32 {
		if of(a%2, b%2) {
			sum += worth
		}
		a, b, worth = a/2, b/2, worth*2
	}
	return sum
}

// reckon is what P3.1 tells, by sums, halves and doubles.
func reckon(o api.Op, a, b int64) int64 {
	switch o {
	case api.OpAdd:
		return (a + b) % round
	case api.OpSub:
		return (a + round - b) % round
	case api.OpMul:
		low, high := b%65536, b/65536
		return (a*low + a*high%65536*65536) % round
	case api.OpAnd:
		return bitwise(a, b, func(x, y int64) bool { return x+y == 2 })
	case api.OpOr:
		return bitwise(a, b, func(x, y int64) bool { return x+y >= 1 })
	case api.OpXor:
		return bitwise(a, b, func(x, y int64) bool { return x != y })
	}
	for range b % 32 {
		if o == api.OpLeft {
			a = a * 2 % round
		} else {
			a /= 2
		}
	}
	return a
}

// compare is what P3.2 tells.
func compare(o api.Op, a, b int64) bool {
	switch o {
	case api.OpSame:
		return a == b
	case api.OpOther:
		return a != b
	case api.OpLess:
		return signed(a) < signed(b)
	}
	return a < b
}

// has tells whether so many bytes from a place on are the region's.
func (p *plain) has(place int64, count int) bool {
	return place+int64(count) <= int64(len(p.bytes))
}

// move is of those instructions that load or store; false, if bytes are none of the region.
func (p *plain) move(x api.Instr) bool {
	place, count := (p.regs[x.B]+int64(x.C))%round, 4
	if x.Op == api.OpByte || x.Op == api.OpPut {
		count = 1
	}
	if !p.has(place, count) {
		return false
	}
	there := p.bytes[place:][:count]
	if x.Op == api.OpLoad || x.Op == api.OpByte {
		n := int64(0)
		for _, b := range there {
			n = n*256 + int64(b)
		}
		p.regs[x.A] = n
		return true
	}
	n := p.regs[x.A]
	for i := count - 1; i >= 0; i-- {
		there[i] = byte(n % 256)
		n /= 256
	}
	return true
}

// step is a plain reading of P21.2.
func (p *plain) step() (bool, api.Ask, api.Errno) {
	if p.asked {
		return false, api.Ask{}, api.ErrState
	}
	if p.at < 0 || p.at >= len(p.code) {
		return false, api.Ask{}, api.ErrFault
	}
	x, next := p.code[p.at], p.at+1
	var a api.Ask
	switch x.Op {
	case api.OpNop:
	case api.OpSet:
		p.regs[x.A] = int64(x.B)*256 + int64(x.C)
	case api.OpMove:
		p.regs[x.A] = p.regs[x.B]
	case api.OpLoad, api.OpByte, api.OpStore, api.OpPut:
		if !p.move(x) {
			return false, api.Ask{}, api.ErrFault
		}
	case api.OpSame, api.OpOther, api.OpLess, api.OpBelow:
		if compare(x.Op, p.regs[x.A], p.regs[x.B]) {
			next += int(x.C)
			if x.C > 127 {
				next -= 256
			}
		}
	case api.OpGo:
		next = int(x.A)*256 + int(x.B)
	case api.OpTell:
		p.told = append(p.told, byte(p.regs[x.A]%256))
	case api.OpAsk:
		a = api.Ask{What: api.What(x.A), H: uint32(p.regs[0]), V: uint32(p.regs[1]), M: uint32(p.regs[2]), Wait: signed(p.regs[3])}
		p.asked = true
	case api.OpEnd:
		a.What = 20
		p.asked = true
	default:
		p.regs[x.A] = reckon(x.Op, p.regs[x.B], p.regs[x.C])
	}
	p.at = next
	return p.asked, a, api.OK
}

// answer is a plain reading of P21.3.
func (p *plain) answer(e api.Errno, v uint32) api.Errno {
	if !p.asked {
		return api.ErrState
	}
	// What is left of a number below 0 is below 0 too: once round brings it to where it belongs.
	p.regs[0], p.regs[1] = (int64(e)%round+round)%round, int64(v)
	p.asked = false
	return api.OK
}

// seen is all that the core's calls tell of it.
func (p *plain) seen() state {
	s := state{at: p.at, bytes: bytes.Clone(p.bytes), console: string(p.told[max(0, len(p.told)-256):])}
	for i, n := range p.regs {
		s.regs[i] = uint32(n)
	}
	return s
}

// both are a core and the plain reading of it: what is done to the one is done to the other, and they have to answer alike.
type both struct {
	c *Core
	p *plain
}

func newBoth(t *testing.T, m api.Image) both {
	t.Helper()
	b := both{made(t, m), plainOf(m)}
	isSeen(t, b.c, b.p.seen())
	return b
}

// step answers whether an instruction was done.
func (b both) step(t *testing.T) bool {
	t.Helper()
	asks, a, e := b.c.Step()
	wantAsks, wantA, wantE := b.p.step()
	if asks != wantAsks || a != wantA || e != wantE {
		t.Fatalf("Step() = %t, %v, error %d, want %t, %v, error %d", asks, a, e, wantAsks, wantA, wantE)
	}
	isSeen(t, b.c, b.p.seen())
	return e == api.OK
}

func (b both) answer(t *testing.T, e api.Errno, v uint32) {
	t.Helper()
	if got, want := b.c.Answer(e, v), b.p.answer(e, v); got != want {
		t.Fatalf("Answer(%d, %d): error %d, want %d", e, v, got, want)
	}
	isSeen(t, b.c, b.p.seen())
}
