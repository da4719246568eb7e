package cpu

import (
	"testing"

	"timekeeper/api"
)

// counted tells bytes that differ from their neighbours, from 1 on.
func counted(size int) []byte {
	all := make([]byte, size)
	for i := range all {
		all[i] = byte(i%251 + 1)
	}
	return all
}

// wordAt is the number of four bytes, the highest first.
func wordAt(all []byte, at int) uint32 {
	n := uint32(0)
	for _, b := range all[at : at+4] {
		n = n*256 + uint32(b)
	}
	return n
}

// placed is what the register of the place has, and what is added to it.
type placed struct {
	reg  uint32
	more uint8
}

// ways to tell a place: without more, with some, and round behind the greatest number.
func waysTo(at uint32) []placed {
	all := []placed{{at, 0}}
	for _, more := range []uint8{1, 2, 4, 127, 128, 254, 255} {
		all = append(all, placed{at - uint32(more), more})
	}
	return all
}

// at is a core whose one instruction moves register 5 from or to a place that register 6 tells.
func at(t *testing.T, o api.Op, size int, p placed) *Core {
	t.Helper()
	regs := [8]uint32{1, 2, 3, 4, 5, 0xfedcba98, p.reg, 8}
	return primed(t, regs, api.Image{Size: size, Data: counted(size), Code: []api.Instr{in(o, 5, 6, p.more)}})
}

// leaves: a step behind which all is as it was, but for these bytes from the place on, and the core is at the next one.
func leaves(t *testing.T, c *Core, place int, left ...byte) {
	t.Helper()
	s := see(c)
	goes(t, c)
	copy(s.bytes[place:], left)
	s.at++
	isSeen(t, c, s)
}

// sizes of a region at which something turns.
func sizes() []int { return []int{0, 1, 2, 3, 4, 5, 7, 8, 256, api.MaxRegion - 1, api.MaxRegion} }

// places at both ends of a region, some outside, and some near the greatest number, which are none even where a word would go round to the first ones.
func places(size int) []uint32 {
	all := []uint32{1 << 31, top - 4096, top - 4, top - 3, top - 2, top - 1, top}
	for at := range 6 {
		all = append(all, uint32(at))
	}
	for at := size - 6; at < size+6; at++ {
		if at > 5 {
			all = append(all, uint32(at))
		}
	}
	return all
}

// atEachPlace tries an instruction in regions of all sizes: where so many bytes from a place on are the region's, it is done; else it is a fault, and nothing turned.
func atEachPlace(t *testing.T, o api.Op, count int64, done func(c *Core, place int)) {
	t.Helper()
	for _, size := range sizes() {
		for _, place := range places(size) {
			for _, p := range waysTo(place) {
				c := at(t, o, size, p)
				if int64(place)+count > int64(size) {
					refuses(t, c, api.ErrFault)
					continue
				}
				done(c, int(place))
			}
		}
	}
}

// P21.2: load tells a word, the highest byte first.
func TestLoad(t *testing.T) {
	atEachPlace(t, api.OpLoad, 4, func(c *Core, place int) {
		turnsTo(t, c, 5, wordAt(counted(place+4), place))
	})
}

// P21.2: byte tells one byte, and clears what stands above it.
func TestByte(t *testing.T) {
	atEachPlace(t, api.OpByte, 1, func(c *Core, place int) {
		turnsTo(t, c, 5, uint32(counted(place + 1)[place]))
	})
}

// P21.2: store leaves a word, the highest byte first, and no other byte.
func TestStore(t *testing.T) {
	atEachPlace(t, api.OpStore, 4, func(c *Core, place int) {
		leaves(t, c, place, 0xfe, 0xdc, 0xba, 0x98)
	})
}

// P21.2: put leaves the lowest byte alone.
func TestPut(t *testing.T) {
	atEachPlace(t, api.OpPut, 1, func(c *Core, place int) {
		leaves(t, c, place, 0x98)
	})
}

// P21.2: bytes from 128 on have no sign, in words neither.
func TestBytesWithoutSign(t *testing.T) {
	regs := [8]uint32{7: 1}
	m := api.Image{Size: 6, Data: []byte{0, 255, 128, 0, 0, 255}, Code: []api.Instr{
		in(api.OpByte, 1, 0, 1), in(api.OpByte, 2, 0, 2), in(api.OpLoad, 3, 7, 0), in(api.OpLoad, 4, 0, 2),
		in(api.OpPut, 4, 0, 0), in(api.OpStore, 3, 7, 1),
	}}
	c := primed(t, regs, m)
	turnsTo(t, c, 1, 255)
	turnsTo(t, c, 2, 128)
	turnsTo(t, c, 3, 0xff800000)
	turnsTo(t, c, 4, 0x800000ff)
	leaves(t, c, 0, 0xff)
	leaves(t, c, 2, 0xff, 0x80, 0, 0)
}

// P21.2: the register of the place may be the one that is loaded, or stored: the place is what it was.
func TestPlaceOfItself(t *testing.T) {
	for a := range uint8(8) {
		regs := [8]uint32{2, 2, 2, 2, 2, 2, 2, 2}
		code := []api.Instr{in(api.OpStore, a, a, 3), in(api.OpPut, a, a, 1), in(api.OpByte, a, a, 0), in(api.OpLoad, a, a, 1)}
		c := primed(t, regs, api.Image{Size: 9, Data: counted(9), Code: code})
		leaves(t, c, 5, 0, 0, 0, 2)
		leaves(t, c, 3, 2)
		turnsTo(t, c, a, 3)
		turnsTo(t, c, a, 0x05000000)
		refuses(t, c, api.ErrFault)
	}
}

// P21.2: each register can be the one that is moved, and each the one of the place.
func TestMovesOfEachRegister(t *testing.T) {
	for a := range uint8(8) {
		for b := range uint8(8) {
			regs := [8]uint32{0, 1, 2, 3, 4, 5, 6, 7}
			size := 20
			all := counted(size)
			m := api.Image{Size: size, Data: all}
			place := int(regs[b]) + 5
			m.Code = []api.Instr{in(api.OpLoad, a, b, 5)}
			turnsTo(t, primed(t, regs, m), a, wordAt(all, place))
			m.Code = []api.Instr{in(api.OpByte, a, b, 5)}
			turnsTo(t, primed(t, regs, m), a, uint32(all[place]))
			m.Code = []api.Instr{in(api.OpStore, a, b, 5)}
			leaves(t, primed(t, regs, m), place, 0, 0, 0, a)
			m.Code = []api.Instr{in(api.OpPut, a, b, 5)}
			leaves(t, primed(t, regs, m), place, a)
		}
	}
}

// P21.2, R2: a fault turns nothing of what was there before either: registers, place, region and console.
func TestFaultTurnsNothing(t *testing.T) {
	for _, word := range []string{"load", "byte", "store", "put"} {
		c := written(t, "size 4", "data 01020304", "set r1 65", "tell r1", "put r1 r0 2", "set r2 4", word+" r1 r2 255")
		goesOn(t, c, 4)
		refuses(t, c, api.ErrFault)
		isSeen(t, c, state{regs: [8]uint32{0, 65, 4}, at: 4, bytes: []byte{1, 2, 65, 4}, console: "A"})
		answers(t, c, 0, 0, api.ErrState)
	}
}
