package cpu

import (
	"timekeeper/api"
	"timekeeper/units"
)

// doing is how an instruction is done; what it has no function for, it does not.
type doing struct {
	turns func(c *Core, x api.Instr)         // a register, the region, the console
	goes  func(c *Core, x api.Instr) int     // where it is then, if that is not the next one
	asks  func(c *Core, x api.Instr) api.Ask // of the kernel
}

// doings are all instructions that may be.
func doings() map[api.Op]doing {
	return map[api.Op]doing{
		api.OpNop:   {},
		api.OpSet:   {turns: (*Core).set},
		api.OpMove:  {turns: (*Core).move},
		api.OpAdd:   {turns: (*Core).reckon},
		api.OpSub:   {turns: (*Core).reckon},
		api.OpMul:   {turns: (*Core).reckon},
		api.OpAnd:   {turns: (*Core).reckon},
		api.OpOr:    {turns: (*Core).reckon},
		api.OpXor:   {turns: (*Core).reckon},
		api.OpLeft:  {turns: (*Core).reckon},
		api.OpRight: {turns: (*Core).reckon},
		api.OpLoad:  {turns: (*Core).load},
		api.OpStore: {turns: (*Core).store},
		api.OpByte:  {turns: (*Core).loadByte},
		api.OpPut:   {turns: (*Core).storeByte},
		api.OpSame:  {goes: (*Core).further},
		api.OpOther: {goes: (*Core).further},
		api.OpLess:  {goes: (*Core).further},
		api.OpBelow: {goes: (*Core).further},
		api.OpGo:    {goes: (*Core).elsewhere},
		api.OpTell:  {turns: (*Core).tell},
		api.OpAsk:   {asks: (*Core).ask},
		api.OpEnd:   {asks: (*Core).end},
	}
}

// fault is what an instruction panics with that may not be done.
type fault struct{}

// do does the instruction where the core is. Whatever may be a fault comes ahead of all that turns, so that nothing has to be taken back.
func (c *Core) do() (asks bool, a api.Ask, e api.Errno) {
	defer func() {
		if recover() != nil {
			asks, a, e = false, api.Ask{}, api.ErrFault
		}
	}()
	x := c.instr()
	d, next := c.doings[x.Op], c.next()
	if d.turns != nil {
		d.turns(c, x)
	}
	if d.goes != nil {
		next = d.goes(c, x)
	}
	if d.asks != nil {
		asks, a = true, d.asks(c, x)
	}
	c.at, c.asked = next, asks
	return asks, a, api.OK
}

// must is a fault, if there was an error.
func must(e api.Errno) {
	if e != api.OK {
		panic(fault{})
	}
}

// found is what was found; a fault, if it was none.
func found[T any](v T, e api.Errno) T {
	must(e)
	return v
}

func (c *Core) instr() api.Instr {
	if c.at < 0 || c.at >= len(c.code) {
		panic(fault{})
	}
	return c.code[c.at]
}

func (c *Core) next() int { return c.at + 1 }

// wide is a number of two bytes.
func wide(high, low uint8) int { return int(high)<<8 | int(low) }

func (c *Core) set(x api.Instr) { c.regs[x.A] = uint32(wide(x.B, x.C)) }

func (c *Core) move(x api.Instr) { c.regs[x.A] = c.regs[x.B] }

func (c *Core) reckon(x api.Instr) {
	c.regs[x.A] = found(units.Do(x.Op, c.regs[x.B], c.regs[x.C]))
}

// place is where an instruction finds, or leaves, bytes; it goes round, as the sum has 32 bits.
func (c *Core) place(x api.Instr) uint32 { return c.regs[x.B] + uint32(x.C) }

func (c *Core) load(x api.Instr) { c.regs[x.A] = found(c.region.Word(c.place(x))) }

func (c *Core) loadByte(x api.Instr) {
	c.regs[x.A] = uint32(found(c.region.Byte(c.place(x))))
}

func (c *Core) store(x api.Instr) { must(c.region.SetWord(c.place(x), c.regs[x.A])) }

func (c *Core) storeByte(x api.Instr) {
	must(c.region.SetByte(c.place(x), uint8(c.regs[x.A])))
}

// further is behind the next one, or ahead of it, if what is compared holds.
func (c *Core) further(x api.Instr) int {
	if !found(units.Holds(x.Op, c.regs[x.A], c.regs[x.B])) {
		return c.next()
	}
	return c.next() + int(int8(x.C))
}

func (c *Core) elsewhere(x api.Instr) int { return wide(x.A, x.B) }

func (c *Core) tell(x api.Instr) {
	c.console = append(c.console, uint8(c.regs[x.A]))
	c.console = c.console[max(0, len(c.console)-api.MaxConsole):]
}

func (c *Core) ask(x api.Instr) api.Ask {
	return api.Ask{
		What: api.What(x.A),
		H:    c.regs[regH],
		V:    c.regs[regV],
		M:    c.regs[regM],
		Wait: int64(int32(c.regs[regWait])),
	}
}

func (c *Core) end(api.Instr) api.Ask { return api.Ask{What: api.WhEnd} }
