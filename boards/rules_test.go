package boards

import (
	"math"
	"reflect"
	"slices"
	"sync"
	"testing"

	"timekeeper/api"
)

// R3: a board that is not there (nil), or that no call made, answers ErrNil or zero values, and does nothing; of no arguments there is another error.
func TestNoBoard(t *testing.T) {
	for _, b := range []*Board{nil, {}, new(Board)} {
		for range 2 {
			for _, rank := range []int{-1, 0, 3, 32} {
				for _, m := range []api.Image{{}, {Size: -1}} {
					if h, e := b.Load(m, rank); h != 0 || e != api.ErrNil {
						t.Errorf("Load = %d, error %d", h, e)
					}
				}
			}
			for _, n := range []int{-1, 0, 1, api.MaxRun + 1} {
				if done, e := b.Run(n); done != 0 || e != api.ErrNil {
					t.Errorf("Run(%d) = %d, error %d", n, done, e)
				}
			}
			for _, line := range append(wrongLines(), 0, 7) {
				for _, e := range []api.Errno{b.Raise(line), b.Mask(line, true), b.Mask(line, false), b.Bind(line, api.Bind{}), b.Bind(line, api.Bind{H: 256, V: 1}), b.Tick()} {
					if e != api.ErrNil {
						t.Errorf("line %d: error %d", line, e)
					}
				}
			}
			if k := b.Kernel(); k != nil {
				t.Errorf("Kernel() = %v", k)
			}
			for _, h := range []uint32{0, 1, 256, 1<<32 - 1} {
				for _, x := range insideOf(t, b, h) {
					if x != (inside{e: api.ErrNil}) {
						t.Errorf("of %d: %v", h, x)
					}
				}
			}
		}
	}
}

// P22.6: of handles that were never given, that are stale, that are a thing's, of a bare task and of one at fault.
func TestHandles(t *testing.T) {
	b := begins(t, 2)
	h := loads(t, b, 3, "size 2", "data 0c", "set r1 65", "tell r1", "load r1 r1 0")
	naked := bare(t, b, 2)
	gone := loads(t, b, 4, "end")
	nakedGone := bare(t, b, 1)
	for range 7 {
		makes(t, b, api.KiLock, 0, 0)
	}
	is(t, "End", b.Kernel().End(nakedGone), api.OK)
	does(t, b, 9, 4)
	full := inside{regs: [8]uint32{1: 65}, bytes: "\x0c\x00", console: "A"}
	for range 2 {
		for handle, want := range map[uint32]inside{
			h: full, naked: {e: api.ErrArg}, gone: {e: api.ErrStale}, nakedGone: {e: api.ErrStale},
			0: {e: api.ErrHandle}, 1: {e: api.ErrHandle}, 255: {e: api.ErrHandle},
			260: {e: api.ErrHandle}, 262: {e: api.ErrHandle}, // things have these
			512: {e: api.ErrHandle}, 514: {e: api.ErrHandle}, 272: {e: api.ErrHandle}, 1<<32 - 1: {e: api.ErrHandle},
		} {
			if got := insideOf(t, b, handle)[0]; got != want {
				t.Errorf("of %d: %v, want %v", handle, got, want)
			}
		}
		looks(t, b, "256 fault - 3 3 - 0 0 0", "257 ready - 2 2 - 0 0 0")
	}
	next := loads(t, b, 5, "size 1")
	if next != 514 {
		t.Fatalf("Load: %d", next)
	}
	for handle, want := range map[uint32]inside{next: {bytes: "\x00"}, gone: {e: api.ErrStale}, h: full} {
		if got := insideOf(t, b, handle)[0]; got != want {
			t.Errorf("of %d: %v, want %v", handle, got, want)
		}
	}
	is(t, "End", b.Kernel().End(naked), api.OK)
	is(t, "End", b.Kernel().End(h), api.OK)
	for _, handle := range []uint32{naked, h} {
		if got := insideOf(t, b, handle)[0]; got != (inside{e: api.ErrStale}) {
			t.Errorf("of %d: %v", handle, got)
		}
	}
}

// P22.6: what a core has behind each instruction, also of one that does not run, is held, waits.
func TestInside(t *testing.T) {
	b := begins(t, 2)
	h := loads(t, b, 3, "size 5", "data 010203", "load r2 r0 1", "tell r2", "set r4 513", "store r4 r0 0", "put r4 r0 4", "tell r4", "set r3 9", "ask 2")
	for i, want := range []inside{
		{bytes: "\x01\x02\x03\x00\x00"},
		{regs: [8]uint32{2: 0x02030000}, bytes: "\x01\x02\x03\x00\x00"},
		{regs: [8]uint32{2: 0x02030000}, bytes: "\x01\x02\x03\x00\x00", console: "\x00"},
		{regs: [8]uint32{2: 0x02030000, 4: 513}, bytes: "\x01\x02\x03\x00\x00", console: "\x00"},
		{regs: [8]uint32{2: 0x02030000, 4: 513}, bytes: "\x00\x00\x02\x01\x00", console: "\x00"},
		{regs: [8]uint32{2: 0x02030000, 4: 513}, bytes: "\x00\x00\x02\x01\x01", console: "\x00"},
		{regs: [8]uint32{2: 0x02030000, 4: 513}, bytes: "\x00\x00\x02\x01\x01", console: "\x00\x01"},
		{regs: [8]uint32{2: 0x02030000, 3: 9, 4: 513}, bytes: "\x00\x00\x02\x01\x01", console: "\x00\x01"},
		{regs: [8]uint32{2: 0x02030000, 3: 9, 4: 513}, bytes: "\x00\x00\x02\x01\x01", console: "\x00\x01"},
	} {
		if got := insideOf(t, b, h)[0]; got != want {
			t.Fatalf("behind %d instructions: %v, want %v", i, got, want)
		}
		does(t, b, 1, min(1, 8-i))
	}
	is(t, "Hold", b.Kernel().Hold(h), api.OK)
	if got := insideOf(t, b, h)[0]; got.console != "\x00\x01" {
		t.Errorf("held: %v", got)
	}
}

// P22.6: a console keeps the last MaxConsole bytes.
func TestLongConsole(t *testing.T) {
	b := begins(t, 2)
	h := loads(t, b, 3, "set r1 1", "tell r2", "add r2 r2 r1", "go 1")
	var all []byte
	for i := range 600 {
		all = append(all, byte(i))
	}
	does(t, b, 1+3*api.MaxConsole, 1+3*api.MaxConsole)
	says(t, b, h, string(all[:api.MaxConsole]))
	does(t, b, 3*344, 3*344)
	says(t, b, h, string(all[344:]))
}

// busy is a board in which there is all that there may be: tasks with cores and without, that run, wait, were answered, are held, at fault and gone, things, lines that are bound, masked and call.
func busy(t *testing.T) (*Board, []uint32) {
	t.Helper()
	b := equipped(t) // 256 to 261
	low := loads(t, b, 1, "size 4", "set r0 257", "ask 5", "tell r0", "put r1 r0 0", "go 2")
	does(t, b, 6, 6)
	answered := loads(t, b, 8, append(asking(api.WhGet, 258, 6, 7, 2), "tell r0", "end")...)
	does(t, b, 6, 6)
	naked := bare(t, b, 7)
	outside(t, b, api.Ask{What: api.WhAlloc, H: 260}, true, api.OK)
	outside(t, b, api.Ask{What: api.WhStart, H: 261, V: 2, M: 1}, true, api.OK)
	outside(t, b, api.Ask{What: api.WhSleep, Wait: 99}, false, api.OK)
	fault := loads(t, b, 6, "tell r0")
	does(t, b, 2, 2)
	ends := loads(t, b, 6, "end")
	does(t, b, 1, 1)
	held := loads(t, b, 6, "tell r0")
	is(t, "Hold", b.Kernel().Hold(held), api.OK)
	waits := loads(t, b, 9, append(asking(api.WhLock, 257, 6, 7, -1), "tell r0")...)
	does(t, b, 6, 6)
	is(t, "Bind", b.Bind(0, api.Bind{H: 256}), api.OK)
	is(t, "Bind", b.Bind(7, api.Bind{H: 259, V: 32}), api.OK)
	is(t, "Mask", b.Mask(0, true), api.OK)
	is(t, "Raise", b.Raise(0), api.OK)
	is(t, "Raise", b.Raise(7), api.OK)
	ticks(t, b, 2)
	looks(t, b, "256 ready - 1 9 - 1 0 0", "257 ready - 8 8 - 1 8 0", "258 waits - 7 7 2 0 0 0 97 2 0 0", "259 fault - 6 6 - 0 0 0", "516 ready held 6 6 - 0 0 0", "261 waits - 9 9 5 257 6 7 -1 0 0 0")
	return b, []uint32{low, waits, answered, naked, fault, ends, held}
}

// wrongs are calls that answer an error, of the busy board.
func wrongs() map[string]struct {
	of   func(b *Board) (any, api.Errno)
	want api.Errno
} {
	type call = struct {
		of   func(b *Board) (any, api.Errno)
		want api.Errno
	}
	all := map[string]call{}
	add := func(name string, want api.Errno, of func(b *Board) (any, api.Errno)) { all[name] = call{of, want} }
	for name, m := range wrongImages() {
		add("Load: "+name, api.ErrArg, func(b *Board) (any, api.Errno) { return b.Load(m, 3) })
	}
	add("Load: rank -1", api.ErrRange, func(b *Board) (any, api.Errno) { return b.Load(api.Image{}, -1) })
	add("Load: rank 32", api.ErrRange, func(b *Board) (any, api.Errno) { return b.Load(api.Image{}, 32) })
	add("Run: -1", api.ErrRange, func(b *Board) (any, api.Errno) { return b.Run(-1) })
	add("Run: too many", api.ErrRange, func(b *Board) (any, api.Errno) { return b.Run(api.MaxRun + 1) })
	add("Run: by far", api.ErrRange, func(b *Board) (any, api.Errno) { return b.Run(math.MaxInt) })
	for name, line := range map[string]int{"-1": -1, "8": 8, "the least": math.MinInt, "the greatest": math.MaxInt} {
		add("Raise: "+name, api.ErrArg, func(b *Board) (any, api.Errno) { return 0, b.Raise(line) })
		add("Mask: "+name, api.ErrArg, func(b *Board) (any, api.Errno) { return 0, b.Mask(line, true) })
		add("Mask off: "+name, api.ErrArg, func(b *Board) (any, api.Errno) { return 0, b.Mask(line, false) })
		add("Bind: "+name, api.ErrArg, func(b *Board) (any, api.Errno) { return 0, b.Bind(line, api.Bind{H: 256}) })
	}
	for h, want := range map[uint32]api.Errno{0: 5, 255: 5, 262: 5, 773: 5, 1<<32 - 1: 5, 260: 6, 258: 1} {
		name := string(rune('a' + h%26))
		add("Regs: "+name, want, func(b *Board) (any, api.Errno) { return b.Regs(h) })
		add("Console: "+name, want, func(b *Board) (any, api.Errno) { return b.Console(h) })
		add("Bytes: "+name, want, func(b *Board) (any, api.Errno) { return b.Bytes(h) })
	}
	return all
}

// later is what is seen of a busy board from now on.
func later(t *testing.T, b *Board, l []uint32) []whole {
	t.Helper()
	runs(t, b, 256)
	outside(t, b, api.Ask{What: api.WhUnlock, H: 257}, true, api.OK)
	runs(t, b, 261)
	outside(t, b, api.Ask{What: api.WhSleep, Wait: 1}, false, api.OK)
	runs(t, b, 257)
	outside(t, b, api.Ask{What: api.WhNow}, true, api.OK) // what had been handed on ahead stays
	seen := []whole{wholeOf(t, b, l...)}
	for i := range 9 {
		does(t, b, 5, 5)
		ticks(t, b, 1)
		is(t, "Mask", b.Mask(i%8, i%3 == 0), api.OK)
		is(t, "Raise", b.Raise(i*3%8), api.OK)
		seen = append(seen, wholeOf(t, b, l...))
	}
	loads(t, b, 3, "nop")
	makes(t, b, api.KiLock, 0, 0)
	return append(seen, wholeOf(t, b, l...))
}

// R2: an error, each of them, changes nothing, and every other result beside it is its zero value.
func TestErrorsChangeNothing(t *testing.T) {
	same, l := busy(t)
	want := later(t, same, l)
	for name, c := range wrongs() {
		b, l := busy(t)
		before := viewOf(b)
		for range 2 {
			got, e := c.of(b)
			if e != c.want || !reflect.ValueOf(got).IsZero() {
				t.Errorf("%s = %v, error %d, want error %d", name, got, e, c.want)
			}
		}
		isSeen(t, b, before)
		if got := later(t, b, l); !reflect.DeepEqual(got, want) {
			t.Errorf("%s has changed what is seen later", name)
		}
	}
}

// R2: the same of a board that is full.
func TestTooManyChangesNothing(t *testing.T) {
	full := func() *Board {
		b := begins(t, 2)
		for i := range api.MaxTasks {
			loads(t, b, i, "size 1", "set r1 65", "tell r1", "end")
		}
		return b
	}
	a, b := full(), full()
	for range 3 {
		if h, e := b.Load(api.Image{}, 31); h != 0 || e != api.ErrMany {
			t.Fatalf("Load = %d, error %d", h, e)
		}
	}
	var l []uint32
	for i := range uint32(api.MaxTasks) {
		l = append(l, 256+i)
	}
	for range 9 {
		isWhole(t, b, wholeOf(t, a, l...), l...)
		does(t, a, 4, 4)
		does(t, b, 4, 4)
	}
	if x, y := loads(t, a, 3), loads(t, b, 3); x != y {
		t.Errorf("the handles %d and %d", x, y)
	}
}

// R4: an image that was handed to Load is not changed, its spare room neither, and can be changed afterwards.
func TestLoadKeepsContentAlone(t *testing.T) {
	data := []byte{1, 2, 3, 4, 5, 6}
	code := []api.Instr{{Op: api.OpSet, A: 1, C: 65}, {Op: api.OpPut, A: 1}, {Op: api.OpTell, A: 1}, {Op: api.OpEnd}, {Op: api.OpNop}}
	wholeData, wholeCode := slices.Clone(data), slices.Clone(code)
	b := begins(t, 2)
	var l []uint32
	for _, size := range []int{4, 6, 8} {
		h, e := b.Load(api.Image{Size: size, Data: data[:4], Code: code[:3]}, 3)
		is(t, "Load", e, api.OK)
		l = append(l, h)
	}
	does(t, b, 3, 3)
	if !slices.Equal(data, wholeData) || !slices.Equal(code, wholeCode) {
		t.Fatalf("what was handed in has changed: %v, %v", data, code)
	}
	for i := range data {
		data[i] = 99
	}
	for i := range code {
		code[i] = api.Instr{Op: api.OpGo, A: 255}
	}
	does(t, b, 9, 9) // the first one's fault; three, and a fault; three, and a fault
	for i, bytes := range []string{"A\x02\x03\x04", "A\x02\x03\x04\x00\x00", "A\x02\x03\x04\x00\x00\x00\x00"} {
		if got := insideOf(t, b, l[i])[0]; got != (inside{regs: [8]uint32{1: 65}, bytes: bytes, console: "A"}) {
			t.Errorf("the core %d: %v", i, got)
		}
	}
}

// R4: what Bytes answers is memory of its own, spare room too; what was answered stays.
func TestAnswersAreNewMemory(t *testing.T) {
	b := begins(t, 2)
	h := loads(t, b, 3, "size 3", "data 010203", "set r1 9", "put r1 r0 1", "tell r1", "go 2")
	first, _ := b.Bytes(h)
	second, _ := b.Bytes(h)
	regs, _ := b.Regs(h)
	room := first[:cap(first)]
	for i := range room {
		room[i] = 77
	}
	if !slices.Equal(second, []byte{1, 2, 3}) {
		t.Fatalf("two answers share memory: %v", second)
	}
	has(t, b, h, 1, 2, 3)
	does(t, b, 3, 3)
	said, _ := b.Console(h)
	does(t, b, 600, 600)
	if !slices.Equal(second, []byte{1, 2, 3}) || regs != [8]uint32{} || said != "\x09" {
		t.Fatalf("an answer has changed: %v, %v, %q", second, regs, said)
	}
	has(t, b, h, 1, 9, 3)
}

// R5: two boards have nothing in common.
func TestBoardsShareNothing(t *testing.T) {
	alone, l := busy(t)
	want := later(t, alone, l)
	a, _ := busy(t)
	b, _ := busy(t)
	if a.Kernel() == b.Kernel() {
		t.Fatal("two boards have one kernel")
	}
	before := viewOf(b)
	if got := later(t, a, l); !reflect.DeepEqual(got, want) {
		t.Error("a board beside another one is not as alone")
	}
	isSeen(t, b, before)
	if got := later(t, b, l); !reflect.DeepEqual(got, want) {
		t.Error("a board behind another one is not as alone")
	}
}

// R5: boards that run at the same time are as each alone.
func TestBoardsAtOneTime(t *testing.T) {
	alone, l := busy(t)
	want := later(t, alone, l)
	var all sync.WaitGroup
	got := make([][]whole, 8)
	for i := range got {
		b, l := busy(t)
		all.Go(func() { got[i] = later(t, b, l) })
	}
	all.Wait()
	for i := range got {
		if !reflect.DeepEqual(got[i], want) {
			t.Errorf("the board %d is not as alone", i)
		}
	}
}

// R1: every call ends, and none panics, at all numbers.
func TestAnyNumbers(t *testing.T) {
	ints := []int{math.MinInt, math.MinInt32, -257, -1, 0, 1, 7, 8, 31, 32, 255, 256, 1000001, math.MaxInt32, math.MaxInt}
	handles := []uint32{0, 1, 255, 256, 257, 259, 261, 262, 517, 1 << 24, 1<<31 - 1, 1 << 31, 1<<32 - 1}
	b, l := busy(t)
	for _, n := range ints {
		for _, h := range handles {
			b.Bind(n, api.Bind{H: h, V: h})
			b.Raise(n)
			b.Mask(n, h%2 == 0)
			b.Run(n)
			b.Tick()
			insideOf(t, b, h)
		}
		b.Load(api.Image{Size: n}, n)
		b.Load(api.Image{}, n)
	}
	insideOf(t, b, l...)
	if len(b.Kernel().Tasks()) > api.MaxTasks {
		t.Error("more tasks than there may be")
	}
}
