package cpu

import (
	"bytes"
	"testing"

	"timekeeper/api"
	"timekeeper/images"
)

// draw gives numbers that look like none has been chosen, the same ones each time.
type draw uint64

func (d *draw) below(n int) int {
	*d = *d*6364136223846793005 + 1442695040888963407
	return int(uint64(*d>>33) % uint64(n))
}

func (d *draw) one(of ...uint8) uint8 { return of[d.below(len(of))] }

func (d *draw) reg() uint8 { return uint8(d.below(8)) }

// number of one byte: small ones, those at an edge, any.
func (d *draw) number() uint8 {
	switch d.below(4) {
	case 0:
		return d.one(0, 1, 127, 128, 254, 255)
	case 1:
		return uint8(d.below(256))
	}
	return uint8(d.below(9))
}

// instr is one that may be; those that may be a fault or lead outside are such that they often do not.
func (d *draw) instr(count int) api.Instr {
	o := api.Op(d.below(23))
	switch {
	case o == api.OpSet:
		return in(o, d.reg(), d.one(0, 0, 0, 0, 1, 255), d.number())
	case o == api.OpMove:
		return in(o, d.reg(), d.reg())
	case o >= api.OpAdd && o <= api.OpRight:
		return in(o, d.reg(), d.reg(), d.reg())
	case o >= api.OpLoad && o <= api.OpPut:
		return in(o, d.reg(), d.reg(), d.number())
	case o >= api.OpSame && o <= api.OpBelow:
		return in(o, d.reg(), d.reg(), uint8(d.below(12)-5))
	case o == api.OpGo:
		return in(o, 0, uint8(d.below(count+1)))
	case o == api.OpTell:
		return in(o, d.reg())
	case o == api.OpAsk:
		return in(o, uint8(1+d.below(20)))
	}
	return in(o)
}

func (d *draw) image() api.Image {
	m := api.Image{Size: d.below(30)}
	if d.below(3) == 0 {
		m.Size = 240 + d.below(40)
	}
	m.Data = make([]byte, d.below(m.Size+1))
	for i := range m.Data {
		m.Data[i] = d.number()
	}
	m.Code = make([]api.Instr, 1+d.below(40))
	for i := range m.Code {
		m.Code[i] = d.instr(len(m.Code))
	}
	return m
}

func (d *draw) answer() (api.Errno, uint32) {
	e, v := api.Errno(d.below(16)), uint32(d.below(12))
	if d.below(4) == 0 {
		e = api.Errno(*d) // any number, also below 0
	}
	if d.below(4) == 0 {
		v = uint32(*d >> 20)
	}
	return e, v
}

// P21.1 to P21.4: long runs of drawn programs against the plain reading, step by step.
func TestDrawnPrograms(t *testing.T) {
	d := draw(7)
	done, faults, asked := map[api.Op]int{}, 0, 0
	for range 6000 {
		m := d.image()
		b := newBoth(t, m)
		for range 120 {
			at := b.p.at
			if b.step(t) {
				done[m.Code[at].Op]++
			} else if !b.p.asked {
				faults++
				b.step(t)
				break
			}
			if b.p.asked {
				asked++
			}
			if d.below(3) == 0 || b.p.asked && d.below(4) > 0 {
				e, v := d.answer()
				b.answer(t, e, v)
			}
		}
	}
	for o := range api.OpEnd + 1 {
		if done[o] < 1000 {
			t.Errorf("Op %d was done %d times only", o, done[o])
		}
	}
	if faults < 1000 || asked < 1000 {
		t.Errorf("%d faults, %d asked", faults, asked)
	}
}

// P21.1 to P21.4: all programs of four instructions out of these, whether what is asked is answered or not.
func TestAllShortPrograms(t *testing.T) {
	few := []api.Instr{
		in(api.OpSet, 1, 255, 253), in(api.OpAdd, 1, 1, 0), in(api.OpSub, 0, 2, 1), in(api.OpLoad, 0, 2, 1), in(api.OpPut, 1, 0, 4),
		in(api.OpStore, 1, 2, 0), in(api.OpSame, 0, 2, 254), in(api.OpBelow, 0, 1, 1), in(api.OpGo, 0, 1), in(api.OpTell, 1), in(api.OpAsk, 3), in(api.OpEnd),
	}
	n := len(few)
	for k := range n * n * n * n {
		m := api.Image{Size: 5, Data: []byte{0, 0, 0, 0, 3}}
		for i, rest := 0, k; i < 4; i, rest = i+1, rest/n {
			m.Code = append(m.Code, few[rest%n])
		}
		b := newBoth(t, m)
		for i := range 8 {
			b.step(t)
			if i%2 == k%2 {
				b.answer(t, api.Errno(i), uint32(k))
			}
		}
	}
}

// R5: the same program does the same twice, and by turns with another one the same as alone.
func TestRunsAreTheSame(t *testing.T) {
	d := draw(23)
	for range 300 {
		m, other := d.image(), d.image()
		alone, turns, beside := made(t, m), made(t, m), made(t, other)
		for i := range 80 {
			asks1, a1, e1 := alone.Step()
			beside.Step()
			beside.Answer(api.Errno(i), 3)
			asks2, a2, e2 := turns.Step()
			if asks1 != asks2 || a1 != a2 || e1 != e2 {
				t.Fatalf("Step() = %t, %v, error %d, and %t, %v, error %d", asks1, a1, e1, asks2, a2, e2)
			}
			alone.Answer(2, uint32(i))
			turns.Answer(2, uint32(i))
			isSeen(t, turns, see(alone))
		}
	}
}

// P0.6: an image that was put and got again runs as it did.
func TestRunsOfWhatIsGot(t *testing.T) {
	d := draw(31)
	for range 100 {
		m := d.image()
		b, e := images.Put(m)
		if e != api.OK {
			t.Fatalf("Put: error %d", e)
		}
		got, e := images.Get(b)
		if e != api.OK {
			t.Fatalf("Get: error %d", e)
		}
		both := both{made(t, got), plainOf(m)}
		for range 60 {
			both.step(t)
			both.answer(t, 1, 2)
		}
		if !bytes.Equal(both.c.Bytes(), both.p.bytes) {
			t.Fatalf("Bytes() = %v, want %v", both.c.Bytes(), both.p.bytes)
		}
	}
}

// R1: no image that New takes makes a step panic or go on for ever, nor does any answer.
func TestStepsOfAnyInstruction(t *testing.T) {
	d := draw(41)
	taken := 0
	for range 60000 {
		m := api.Image{Size: d.below(7) - 1, Data: make([]byte, d.below(3))}
		for range 1 + d.below(3) {
			m.Code = append(m.Code, in(api.Op(d.below(25)), d.number(), d.number(), d.number()))
		}
		c, e := New(m)
		if e != api.OK {
			continue
		}
		taken++
		p := plainOf(m)
		for range 12 {
			both{c, p}.step(t)
			both{c, p}.answer(t, api.Errno(d.below(1<<31)-1<<30)*5, uint32(d.below(1<<31))*2+1)
		}
	}
	if taken < 1000 {
		t.Errorf("only %d images were taken", taken)
	}
}
