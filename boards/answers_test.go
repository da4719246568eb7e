package boards

import (
	"strconv"
	"testing"

	"timekeeper/api"
)

// equipped is a board with one of each thing, 256 to 261: a semaphore of 1 of 2, a mutex, a queue of 2, the flags 12, a pool of a block, an alarm for the semaphore.
func equipped(t *testing.T) *Board {
	t.Helper()
	b := begins(t, 2)
	for _, m := range []api.Make{
		{Kind: api.KiCount, A: 1, B: 2}, {Kind: api.KiLock}, {Kind: api.KiRow, A: 2}, {Kind: api.KiFlags, A: 12}, {Kind: api.KiPool, A: 1, B: 8}, {Kind: api.KiAlarm, A: 256},
	} {
		makes(t, b, m.Kind, m.A, m.B)
	}
	return b
}

// asking are the lines by which a task asks; the registers 0 to 3 tell what, and a Wait below 0 is -1.
func asking(w api.What, h, v, m, wait int) []string {
	l := []string{
		"set r0 " + strconv.Itoa(h), "set r1 " + strconv.Itoa(v), "set r2 " + strconv.Itoa(m), "set r3 " + strconv.Itoa(max(0, wait)), "nop",
	}
	if wait < 0 {
		l[3], l[4] = "set r4 1", "sub r3 r3 r4"
	}
	return append(l, "ask "+strconv.Itoa(int(w)))
}

// P22.3: every kind of ask, answered at once: what it is answered stands in the registers 0 and 1 behind the instruction, and the others stay.
func TestAnsweredAtOnce(t *testing.T) {
	type row struct {
		what          api.What
		h, v, m, wait int
		e, value      uint32
	}
	for i, c := range []row{
		{api.WhYield, 99, 98, 7, 6, 0, 0},
		{api.WhSleep, 99, 98, 7, 0, 0, 0},
		{api.WhSleep, 99, 98, 7, -1, 4, 0},
		{api.WhTake, 256, 98, 7, 5, 0, 0},
		{api.WhTake, 262, 98, 7, 5, 5, 0},
		{api.WhTake, 257, 98, 7, 5, 1, 0},
		{api.WhGive, 256, 98, 7, 5, 0, 0},
		{api.WhGive, 0, 98, 7, 5, 5, 0},
		{api.WhLock, 257, 98, 7, -1, 0, 0},
		{api.WhUnlock, 257, 98, 7, 5, 13, 0},
		{api.WhPut, 258, 98, 7, 5, 0, 0},
		{api.WhPush, 258, 98, 7, 0, 0, 0},
		{api.WhGet, 258, 98, 7, 0, 11, 0},
		{api.WhPeek, 258, 98, 7, 5, 11, 0},
		{api.WhAwait, 259, 6, 0, 5, 0, 4},
		{api.WhAwait, 259, 12, 3, 5, 0, 12},
		{api.WhAwait, 259, 3, 0, 0, 11, 0},
		{api.WhAwait, 259, 3, 4, 0, 1, 0},
		{api.WhRaise, 259, 3, 7, 5, 0, 15},
		{api.WhLower, 259, 4, 7, 5, 0, 8},
		{api.WhAlloc, 260, 98, 7, 5, 0, 0},
		{api.WhFree, 260, 0, 7, 5, 13, 0},
		{api.WhFree, 260, 1, 7, 5, 1, 0},
		{api.WhStart, 261, 3, 2, 5, 0, 0},
		{api.WhStart, 261, 0, 2, 5, 4, 0},
		{api.WhStop, 261, 98, 7, 5, 7, 0},
		{api.WhRank, 99, 9, 7, 5, 0, 0},
		{api.WhRank, 99, 32, 7, 5, 4, 0},
		{api.WhNow, 99, 98, 7, 5, 0, 3},
	} {
		b := equipped(t)
		ticks(t, b, 3)
		h := loads(t, b, 5, append(asking(c.what, c.h, c.v, c.m, c.wait), "tell r0", "tell r1")...)
		does(t, b, 5, 5)
		begin(t, b, h, uint32(c.h), uint32(c.v), uint32(c.m), uint32(c.wait))
		does(t, b, 1, 1)
		if r, _ := b.Regs(h); r[0] != c.e || r[1] != c.value || r[2] != uint32(c.m) || r[3] != uint32(c.wait) {
			t.Errorf("row %d: the registers %v, want %d, %d, and the others as they were", i, r, c.e, c.value)
		}
		if x := b.Kernel().Tasks()[0]; x.Answers != 1 || x.Last != api.Errno(c.e) || x.Value != c.value || x.State != api.StReady {
			t.Errorf("row %d: the task %v", i, x)
		}
		does(t, b, 2, 2)
		says(t, b, h, string([]byte{byte(c.e), byte(c.value)}))
		once := equipped(t)
		ticks(t, once, 3)
		h = loads(t, once, 5, append(asking(c.what, c.h, c.v, c.m, c.wait), "tell r0", "tell r1")...)
		does(t, once, 8, 8)
		says(t, once, h, string([]byte{byte(c.e), byte(c.value)}))
	}
}

// P22.3: what WhEnd and OpEnd ask: the task is no more, and has let go.
func TestEnds(t *testing.T) {
	for _, end := range []string{"end", "ask 20"} {
		b := equipped(t)
		h := loads(t, b, 5, "set r0 257", "ask 5", end, "nop")
		low := loads(t, b, 3, "nop")
		does(t, b, 2, 2)
		if thingOf(t, b, 257).Owner != h {
			t.Fatal("it has not the mutex")
		}
		does(t, b, 1, 1)
		if thingOf(t, b, 257).Owner != 0 {
			t.Fatal("it has the mutex")
		}
		runs(t, b, low)
		looks(t, b, "257 ready - 3 3 - 0 0 0")
		for range 2 {
			if r, e := b.Regs(h); r != [8]uint32{} || e != api.ErrStale {
				t.Fatalf("Regs = %v, error %d", r, e)
			}
			does(t, b, 1, 1)
		}
	}
}

// waiter is a board with one of each thing, a low task with a core that says nothing, and a high one that waits by what it asks.
type waiter struct {
	b         *Board
	low, high uint32
	asked     [8]uint32
}

func newWaiter(t *testing.T, ahead func(b *Board), w api.What, h, v, m, wait int) waiter {
	t.Helper()
	x := waiter{b: equipped(t)}
	x.low = loads(t, x.b, 1, "go 0")
	if ahead != nil {
		ahead(x.b) // asked by the low one
	}
	x.high = loads(t, x.b, 5, append(asking(w, h, v, m, wait), "tell r0", "tell r1", "go 8")...)
	does(t, x.b, 6, 6)
	runs(t, x.b, x.low)
	x.asked, _ = x.b.Regs(x.high)
	if x.asked[0] != uint32(h) || x.asked[1] != uint32(v) {
		t.Fatalf("the registers %v of one that waits", x.asked)
	}
	return x
}

// P22.3: what is answered later: by a tick, by another task's ask, by a line, by a thing that is dropped, by one that ends or is at fault.
func TestAnsweredLater(t *testing.T) {
	byLow := func(a api.Ask) func(b *Board) { return func(b *Board) { b.Kernel().Ask(a) } }
	lock, take := byLow(api.Ask{What: api.WhLock, H: 257}), byLow(api.Ask{What: api.WhTake, H: 256})
	alloc := byLow(api.Ask{What: api.WhAlloc, H: 260})
	full := func(b *Board) {
		b.Kernel().Ask(api.Ask{What: api.WhPut, H: 258, V: 21})
		b.Kernel().Ask(api.Ask{What: api.WhPut, H: 258, V: 22})
	}
	tick := func(b *Board) { b.Tick() }
	line := func(h, v uint32) func(b *Board) {
		return func(b *Board) {
			b.Bind(7, api.Bind{H: h, V: v})
			b.Raise(7)
		}
	}
	drop := func(h uint32) func(b *Board) { return func(b *Board) { b.Kernel().Drop(h) } }
	for name, c := range map[string]struct {
		ahead         func(b *Board)
		what          api.What
		h, v, m, wait int
		later         func(b *Board)
		e, value      uint32
	}{
		"slept":                {nil, api.WhSleep, 5, 6, 7, 1, tick, 0, 0},
		"took too long":        {take, api.WhTake, 256, 6, 7, 1, tick, 8, 0},
		"is given":             {take, api.WhTake, 256, 6, 7, -1, byLow(api.Ask{What: api.WhGive, H: 256}), 0, 0},
		"is given by a line":   {take, api.WhTake, 256, 6, 7, 9, line(256, 0), 0, 0},
		"the semaphore goes":   {take, api.WhTake, 256, 6, 7, -1, drop(256), 9, 0},
		"is unlocked":          {lock, api.WhLock, 257, 6, 7, -1, byLow(api.Ask{What: api.WhUnlock, H: 257}), 0, 0},
		"who has it ends":      {lock, api.WhLock, 257, 6, 7, 9, byLow(api.Ask{What: api.WhEnd}), 0, 0},
		"who has it at fault":  {lock, api.WhLock, 257, 6, 7, 9, func(b *Board) { b.Kernel().Fault(256) }, 0, 0},
		"the mutex goes":       {lock, api.WhLock, 257, 6, 7, 9, drop(257), 9, 0},
		"a message":            {nil, api.WhGet, 258, 6, 7, 9, byLow(api.Ask{What: api.WhPut, H: 258, V: 77}), 0, 77},
		"a message is pushed":  {nil, api.WhGet, 258, 6, 7, -1, byLow(api.Ask{What: api.WhPush, H: 258, V: 1 << 31}), 0, 1 << 31},
		"no message":           {nil, api.WhGet, 258, 6, 7, 1, tick, 8, 0},
		"room to put":          {full, api.WhPut, 258, 6, 7, -1, byLow(api.Ask{What: api.WhGet, H: 258}), 0, 0},
		"room to push":         {full, api.WhPush, 258, 6, 7, 9, byLow(api.Ask{What: api.WhGet, H: 258}), 0, 0},
		"the queue goes":       {full, api.WhPush, 258, 6, 7, 9, drop(258), 9, 0},
		"flags are raised":     {nil, api.WhAwait, 259, 3, 0, 9, byLow(api.Ask{What: api.WhRaise, H: 259, V: 2}), 0, 2},
		"flags by a line":      {nil, api.WhAwait, 259, 3, 3, -1, line(259, 19), 0, 3},
		"the flags go":         {nil, api.WhAwait, 259, 3, 3, -1, drop(259), 9, 0},
		"a block":              {alloc, api.WhAlloc, 260, 6, 7, -1, byLow(api.Ask{What: api.WhFree, H: 260}), 0, 0},
		"a block of one ended": {alloc, api.WhAlloc, 260, 6, 7, 9, byLow(api.Ask{What: api.WhEnd}), 0, 0},
		"no block":             {alloc, api.WhAlloc, 260, 6, 7, 1, tick, 8, 0},
		"an alarm": {func(b *Board) {
			take(b)
			b.Kernel().Ask(api.Ask{What: api.WhStart, H: 261, V: 1})
		}, api.WhTake, 256, 6, 7, 9, tick, 0, 0},
	} {
		t.Run(name, func(t *testing.T) {
			x := newWaiter(t, c.ahead, c.what, c.h, c.v, c.m, c.wait)
			c.later(x.b)
			runs(t, x.b, x.high)
			want := x.asked
			want[0], want[1] = c.e, c.value
			begin(t, x.b, x.high, want[:]...)
			does(t, x.b, 2, 2)
			says(t, x.b, x.high, string([]byte{byte(c.e), byte(c.value)}))

			y := newWaiter(t, c.ahead, c.what, c.h, c.v, c.m, c.wait)
			c.later(y.b)
			does(t, y.b, 2, 2) // what it was answered is there, though nobody looked
			says(t, y.b, y.high, string([]byte{byte(c.e), byte(c.value)}))
		})
	}
}

// P22.3: as long as it waits, its registers stay, whatever is looked at and run.
func TestNotAnsweredYet(t *testing.T) {
	x := newWaiter(t, nil, api.WhGet, 258, 6, 7, 9)
	for range 8 {
		begin(t, x.b, x.high, x.asked[:]...)
		does(t, x.b, 3, 3)
		ticks(t, x.b, 1)
	}
	begin(t, x.b, x.high, x.asked[:]...)
	ticks(t, x.b, 1)
	begin(t, x.b, x.high, 8, 0, 7, 9)
}

// again makes a task that was answered be answered otherwise, though its core did not ask: the tick.
func again(t *testing.T, b *Board, h uint32) {
	t.Helper()
	runs(t, b, h)
	outside(t, b, api.Ask{What: api.WhNow}, true, api.OK)
}

// Words: an answer is handed on as Run begins, and ahead of what Regs, Console and Bytes tell: what a task is answered behind that, its core did not ask for.
func TestHandedOnBy(t *testing.T) {
	for name, do := range map[string]func(b *Board, low, high uint32) api.Errno{
		"Run":                   func(b *Board, _, _ uint32) api.Errno { _, e := b.Run(0); return e },
		"Regs":                  func(b *Board, _, high uint32) api.Errno { _, e := b.Regs(high); return e },
		"Console":               func(b *Board, _, high uint32) api.Errno { _, e := b.Console(high); return e },
		"Bytes":                 func(b *Board, _, high uint32) api.Errno { _, e := b.Bytes(high); return e },
		"Regs of another one":   func(b *Board, low, _ uint32) api.Errno { _, e := b.Regs(low); return e },
		"Console of another":    func(b *Board, low, _ uint32) api.Errno { _, e := b.Console(low); return e },
		"Bytes of another one":  func(b *Board, low, _ uint32) api.Errno { _, e := b.Bytes(low); return e },
		"Regs of one at fault":  func(b *Board, low, _ uint32) api.Errno { b.Kernel().Fault(low); _, e := b.Regs(low); return e },
		"Bytes of one that was": func(b *Board, low, _ uint32) api.Errno { b.Kernel().Hold(low); _, e := b.Bytes(low); return e },
	} {
		x := newWaiter(t, nil, api.WhGet, 258, 6, 7, 2)
		ticks(t, x.b, 2)
		is(t, name, do(x.b, x.low, x.high), api.OK)
		again(t, x.b, x.high)
		if r, e := x.b.Regs(x.high); e != api.OK || r[0] != 8 || r[1] != 0 {
			t.Errorf("%s: the registers %v, error %d, want 8, 0", name, r, e)
		}
	}
}

// Words, R2: nothing else hands an answer on, neither what does otherwise nor what answers an error: of what it is answered, the last one is handed on.
func TestNotHandedOnBy(t *testing.T) {
	for name, do := range map[string]func(b *Board, low, high uint32){
		"nothing":                func(*Board, uint32, uint32) {},
		"Tick":                   func(b *Board, _, _ uint32) { b.Tick() },
		"Raise":                  func(b *Board, _, _ uint32) { b.Raise(0) },
		"Mask":                   func(b *Board, _, _ uint32) { b.Mask(0, false) },
		"Bind":                   func(b *Board, _, _ uint32) { b.Bind(0, api.Bind{H: 256}) },
		"Kernel":                 func(b *Board, _, _ uint32) { b.Kernel().Tasks() },
		"Load":                   func(b *Board, _, _ uint32) { b.Load(api.Image{}, 2) },
		"Run out of its range":   func(b *Board, _, _ uint32) { b.Run(-1); b.Run(api.MaxRun + 1) },
		"Regs of no handle":      func(b *Board, _, _ uint32) { b.Regs(0); b.Regs(999) },
		"Console of no handle":   func(b *Board, _, _ uint32) { b.Console(0); b.Console(999) },
		"Bytes of no handle":     func(b *Board, _, _ uint32) { b.Bytes(0); b.Bytes(999) },
		"what a stale one has":   func(b *Board, low, _ uint32) { b.Kernel().End(low); b.Regs(low); b.Console(low); b.Bytes(low) },
		"what a bare one has":    func(b *Board, _, _ uint32) { h, _ := b.Kernel().Task(1); b.Regs(h); b.Console(h); b.Bytes(h) },
		"Load of no image":       func(b *Board, _, _ uint32) { b.Load(api.Image{Size: -1}, 2) },
		"Raise of no line":       func(b *Board, _, _ uint32) { b.Raise(8) },
		"what is asked of a nil": func(*Board, uint32, uint32) { (*Board)(nil).Run(0) },
	} {
		x := newWaiter(t, nil, api.WhGet, 258, 6, 7, 2)
		ticks(t, x.b, 2)
		do(x.b, x.low, x.high)
		again(t, x.b, x.high)
		if r, e := x.b.Regs(x.high); e != api.OK || r[0] != 0 || r[1] != x.b.Kernel().Now() || r[1] < 2 {
			t.Errorf("%s: the registers %v, error %d, want 0 and the tick", name, r, e)
		}
	}
}

// Words: what a task is answered whose core did not ask does not stand in its registers, and is not what a later ask of its core is answered.
func TestCoreDidNotAsk(t *testing.T) {
	for _, seen := range []bool{false, true} {
		b := equipped(t)
		h := loads(t, b, 5, append([]string{"nop"}, asking(api.WhGet, 258, 6, 7, 9)...)...)
		does(t, b, 1, 1)
		again(t, b, h)
		again(t, b, h)
		if seen {
			holds(t, b, h)
		}
		does(t, b, 5, 5)
		begin(t, b, h, 258, 6, 7, 9)
		again(t, b, h)
		does(t, b, 9, 1) // the ask
		looks(t, b, "256 waits - 5 5 9 258 6 7 9 3 0 0")
		holds(t, b, h, 258, 6, 7, 9)
		does(t, b, 9, 0)
		holds(t, b, h, 258, 6, 7, 9)
		ticks(t, b, 9)
		holds(t, b, h, 8, 0, 7, 9)
	}
}

// Words: one that is made to wait from without, while it runs, is answered without its core, and goes on where it was.
func TestWaitsFromWithout(t *testing.T) {
	b := equipped(t)
	h := loads(t, b, 5, "set r0 9", "set r1 8", "tell r0", "tell r1", "go 2")
	does(t, b, 2, 2)
	outside(t, b, api.Ask{What: api.WhSleep, Wait: 3}, false, api.OK)
	does(t, b, 9, 0)
	holds(t, b, h, 9, 8)
	ticks(t, b, 3)
	runs(t, b, h)
	holds(t, b, h, 9, 8)
	does(t, b, 2, 2)
	says(t, b, h, "\x09\x08")
	holds(t, b, h, 9, 8)
}

// Words: one that was answered, and made to wait again from without, has what it was answered, and not what comes behind it, once that was handed on.
func TestWaitsAgainFromWithout(t *testing.T) {
	for _, seen := range []bool{false, true} {
		x := newWaiter(t, nil, api.WhGet, 258, 6, 7, 2)
		ticks(t, x.b, 2)
		runs(t, x.b, x.high)
		outside(t, x.b, api.Ask{What: api.WhGet, H: 258, Wait: 5}, false, api.OK)
		if seen {
			begin(t, x.b, x.high, 8, 0, 7, 2) // it waits, but not for what its core asked
		}
		is(t, "Drop", x.b.Kernel().Drop(258), api.OK)
		if seen {
			begin(t, x.b, x.high, 8, 0, 7, 2)
		} else {
			begin(t, x.b, x.high, 9, 0, 7, 2) // its last answer
		}
		does(t, x.b, 1, 1)
	}
}

// Words: two that were answered at one time have it both, the one that does not run, too.
func TestTwoAreAnswered(t *testing.T) {
	b := equipped(t)
	var l []uint32
	for i := range 3 {
		l = append(l, loads(t, b, 3+i, asking(api.WhAwait, 259, 16<<i, 0, -1)...))
	}
	does(t, b, 99, 18)
	low := loads(t, b, 1, asking(api.WhRaise, 259, 16+64, 0, 0)...)
	does(t, b, 5, 5)
	begin(t, b, l[0], 259, 16)
	does(t, b, 1, 1)
	begin(t, b, l[0], 0, 16)
	begin(t, b, l[1], 259, 32)
	begin(t, b, l[2], 0, 64)
	begin(t, b, low, 0, 12+16+64)
	looks(t, b, "256 ready - 3 3 - 1 0 16", "257 waits - 4 4 11 259 32 0 -1 0 0 0", "258 ready - 5 5 - 1 0 64", "259 ready - 1 1 - 1 0 92")
}

// P22.3: what a core's task is answered within a run, it has there, though it asks again and again.
func TestAsksAgain(t *testing.T) {
	b := equipped(t)
	put := loads(t, b, 5, "set r4 1", "set r0 258", "add r5 r5 r4", "move r1 r5", "set r3 9", "ask 7", "tell r0", "go 1")
	get := loads(t, b, 5, "set r0 258", "set r3 9", "ask 9", "tell r0", "tell r1", "go 0")
	// Two are put; the third one waits. One is got at a time from then on, and for each of these one is put.
	does(t, b, 1+2*7+5, 20)
	looks(t, b, "256 waits - 5 5 7 258 3 0 9 2 0 0", "257 ready - 5 5 - 0 0 0")
	holds(t, b, put, 258, 3, 0, 9, 1, 3)
	does(t, b, 3, 3)
	looks(t, b, "256 ready - 5 5 - 3 0 0", "257 ready - 5 5 - 1 0 1")
	holds(t, b, put, 0, 0, 0, 9, 1, 3)
	holds(t, b, get, 0, 1, 0, 9)
	is(t, "Hold", b.Kernel().Hold(put), api.OK)
	does(t, b, 3+6+6+3, 18)
	says(t, b, get, "\x00\x01\x00\x02\x00\x03")
	looks(t, b, "256 ready held 5 5 - 3 0 0", "257 waits - 5 5 9 258 3 0 9 3 0 3")
}

// Words, P20.3: what an End, a Fault, a Hold and a Free from outside do to a core that waits for an answer.
func TestFromOutside(t *testing.T) {
	fault := newWaiter(t, nil, api.WhGet, 258, 6, 7, 2)
	is(t, "Fault", fault.b.Kernel().Fault(fault.high), api.OK)
	begin(t, fault.b, fault.high, 258, 6, 7, 2) // nobody answered it
	ticks(t, fault.b, 3)
	does(t, fault.b, 9, 9)
	begin(t, fault.b, fault.high, 258, 6, 7, 2)
	is(t, "End", fault.b.Kernel().End(fault.high), api.OK)
	if r, e := fault.b.Regs(fault.high); r != [8]uint32{} || e != api.ErrStale {
		t.Errorf("Regs = %v, error %d", r, e)
	}

	late := newWaiter(t, nil, api.WhGet, 258, 6, 7, 2)
	ticks(t, late.b, 2)
	is(t, "Fault", late.b.Kernel().Fault(late.high), api.OK)
	begin(t, late.b, late.high, 8, 0, 7, 2) // it was answered ahead of that
	says(t, late.b, late.high, "")

	end := newWaiter(t, nil, api.WhGet, 258, 6, 7, 2)
	is(t, "End", end.b.Kernel().End(end.high), api.OK)
	does(t, end.b, 9, 9)
	if s, e := end.b.Console(end.high); s != "" || e != api.ErrStale {
		t.Errorf("Console = %q, error %d", s, e)
	}

	held := newWaiter(t, nil, api.WhGet, 258, 6, 7, 2)
	is(t, "Hold", held.b.Kernel().Hold(held.high), api.OK)
	begin(t, held.b, held.high, 258, 6, 7, 2)
	ticks(t, held.b, 2)
	runs(t, held.b, held.low)
	begin(t, held.b, held.high, 8, 0, 7, 2) // it was answered, held or not
	does(t, held.b, 9, 9)
	says(t, held.b, held.high, "")
	is(t, "Free", held.b.Kernel().Free(held.high), api.OK)
	does(t, held.b, 9, 9)
	says(t, held.b, held.high, "\x08\x00")
}

// P22.3: a core goes on where it was, when its task was held and is free again, and never, when it was at fault.
func TestGoesOn(t *testing.T) {
	b := begins(t, 2)
	h := loads(t, b, 5, "set r1 65", "tell r1", "set r1 66", "tell r1", "go 4")
	for i, want := range []string{"", "A", "A", "AB"} {
		does(t, b, 1, 1)
		says(t, b, h, want)
		is(t, "Hold", b.Kernel().Hold(h), api.OK)
		does(t, b, 5, 0)
		says(t, b, h, want)
		is(t, "Free", b.Kernel().Free(h), api.OK)
		is(t, "Rank", b.Kernel().Rank(h, i), api.OK)
	}
	is(t, "Fault", b.Kernel().Fault(h), api.OK)
	does(t, b, 5, 0)
	holds(t, b, h, 0, 66)
	if e := b.Kernel().Free(h); e != api.ErrState {
		t.Errorf("Free: error %d", e)
	}
	does(t, b, 5, 0)
	says(t, b, h, "AB")
}
