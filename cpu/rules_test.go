package cpu

import (
	"bytes"
	"slices"
	"sync"
	"testing"

	"timekeeper/api"
	"timekeeper/images"
)

// R3: a core that is not there (nil), or that no call made, answers ErrNil or zero values, and does nothing.
func TestNoCore(t *testing.T) {
	for _, c := range []*Core{nil, {}, new(Core)} {
		for range 3 {
			if asks, a, e := c.Step(); asks || a != (api.Ask{}) || e != api.ErrNil {
				t.Errorf("Step() = %t, %v, error %d", asks, a, e)
			}
			for _, e := range []api.Errno{api.OK, api.ErrTimeout, -1} {
				answers(t, c, e, 7, api.ErrNil)
			}
			isSeen(t, c, state{})
		}
	}
}

// P21.1, R3: a core of an empty image is there, unlike a zero struct.
func TestEmptyImageIsThere(t *testing.T) {
	c := made(t, api.Image{})
	refuses(t, c, api.ErrFault)
	answers(t, c, 0, 0, api.ErrState)
	isSeen(t, c, state{})
}

// R4: what is handed to New is not changed, its spare room neither, and not kept but by its content.
func TestNewKeepsContentAlone(t *testing.T) {
	data := []byte{1, 2, 3, 4, 5, 6}
	code := []api.Instr{in(api.OpSet, 1, 0, 65), in(api.OpPut, 1, 0, 0), in(api.OpTell, 1), in(api.OpEnd), in(api.OpNop)}
	wholeData, wholeCode := slices.Clone(data), slices.Clone(code)
	for _, size := range []int{4, 6, 8} {
		c := made(t, api.Image{Size: size, Data: data[:4], Code: code[:4]})
		goesOn(t, c, 3)
		if !bytes.Equal(data, wholeData) || !slices.Equal(code, wholeCode) {
			t.Fatalf("what was handed in has changed: %v, %v", data, code)
		}
	}
	c := made(t, api.Image{Size: 6, Data: data[:4], Code: code[:4]})
	for i := range data {
		data[i] = 99
	}
	for i := range code {
		code[i] = in(api.OpGo, 255, 255)
	}
	goesOn(t, c, 3)
	isSeen(t, c, state{regs: [8]uint32{1: 65}, at: 3, bytes: []byte{65, 2, 3, 4, 0, 0}, console: "A"})
	asks(t, c, api.Ask{What: api.WhEnd})
	answers(t, c, 0, 0, api.OK)
	refuses(t, c, api.ErrFault)
}

// R4: what Regs, Bytes and Console tell is memory of its own, and stays as it was told.
func TestAnswersAreNewMemory(t *testing.T) {
	c := written(t, "size 5", "data 0102030405", "set r1 65", "tell r1", "put r1 r0 1", "tell r0", "store r1 r0 0", "move r2 r1")
	goesOn(t, c, 2)
	want := state{regs: [8]uint32{1: 65}, at: 2, bytes: []byte{1, 2, 3, 4, 5}, console: "A"}
	first, second := see(c), see(c)
	room := first.bytes[:cap(first.bytes)]
	for i := range room {
		room[i] = 77
	}
	first.regs = [8]uint32{5, 5, 5, 5, 5, 5, 5, 5}
	if !bytes.Equal(second.bytes, want.bytes) {
		t.Fatalf("two answers share memory: %v", second.bytes)
	}
	isSeen(t, c, want)
	goesOn(t, c, 4)
	if second.regs != want.regs || !bytes.Equal(second.bytes, want.bytes) || second.console != want.console {
		t.Fatalf("an answer changed: %v", second)
	}
	isSeen(t, c, state{regs: [8]uint32{0, 65, 65}, at: 6, bytes: []byte{0, 0, 0, 65, 5}, console: "A\x00"})
}

// P21.4: a console that was told stays so while the core tells on, also where the first bytes go.
func TestConsoleStaysAsTold(t *testing.T) {
	c := written(t, "size 0", "set r1 1", "tell r2", "add r2 r2 r1", "go 1")
	goesOn(t, c, 1)
	var told []string
	for range 600 {
		goesOn(t, c, 3)
		told = append(told, c.Console())
	}
	all := make([]byte, len(told))
	for i := range all {
		all[i] = byte(i)
	}
	for i, s := range told {
		if s != string(all[max(0, i-255):i+1]) {
			t.Fatalf("Console() behind %d bytes has become %q", i+1, s)
		}
	}
}

// P21.5, R5: two cores of one image share nothing, whatever the one of them does.
func TestCoresShareNothing(t *testing.T) {
	m, _, e := images.Parse("size 4\ndata 01020304\nset r1 65\ntell r1\nstore r1 r0 0\nask 5\nload r1 r0 1")
	if e != api.OK {
		t.Fatal(e)
	}
	a, b := made(t, m), made(t, m)
	begin := state{bytes: []byte{1, 2, 3, 4}}
	goesOn(t, a, 3)
	isSeen(t, b, begin)
	asks(t, a, api.Ask{What: api.WhLock, V: 65})
	isSeen(t, b, begin)
	answers(t, b, 0, 0, api.ErrState)
	goesOn(t, b, 3)
	refuses(t, a, api.ErrState)
	answers(t, a, 4, 5, api.OK)
	behind := state{regs: [8]uint32{1: 65}, at: 3, bytes: []byte{0, 0, 0, 65}, console: "A"}
	isSeen(t, b, behind)
	refuses(t, a, api.ErrFault)
	isSeen(t, b, behind)
	isSeen(t, made(t, m), begin)
	if !bytes.Equal(m.Data, []byte{1, 2, 3, 4}) {
		t.Fatalf("the image has changed: %v", m.Data)
	}
}

// P21.5, R5: cores that run at the same time are as each alone.
func TestCoresAtOneTime(t *testing.T) {
	var all sync.WaitGroup
	d := draw(11)
	for range 8 {
		m := d.image()
		all.Add(1)
		go func() {
			defer all.Done()
			c, e := New(m)
			p := plainOf(m)
			for range 300 {
				c.Step()
				p.step()
				c.Answer(e, 1)
				p.answer(e, 1)
			}
			if got, want := see(c), p.seen(); got.regs != want.regs || got.at != want.at || !bytes.Equal(got.bytes, want.bytes) || got.console != want.console {
				t.Errorf("behind 300 steps: %v, want %v", got, want)
			}
		}()
	}
	all.Wait()
}
