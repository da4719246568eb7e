package boards

import (
	"math"
	"testing"

	"timekeeper/api"
)

// wrongLines are none.
func wrongLines() []int {
	return []int{-1, api.MaxLines, api.MaxLines + 1, math.MinInt, math.MaxInt, 1 << 32, 256}
}

// called is a board on which the line n raises the flag n of the flags 256.
func called(t *testing.T) *Board {
	t.Helper()
	b := begins(t, 2)
	f := makes(t, b, api.KiFlags, 0, 0)
	for line := range api.MaxLines {
		is(t, "Bind", b.Bind(line, api.Bind{H: f, V: 1 << line}), api.OK)
	}
	return b
}

// P22.4: no other line than 0 to MaxLines - 1.
func TestWrongLines(t *testing.T) {
	b := called(t)
	for _, line := range wrongLines() {
		for _, e := range []api.Errno{b.Raise(line), b.Mask(line, true), b.Mask(line, false), b.Bind(line, api.Bind{H: 256, V: 1 << 20}), b.Bind(line, api.Bind{})} {
			if e != api.ErrArg {
				t.Errorf("line %d: error %d", line, e)
			}
		}
	}
	for line := range api.MaxLines {
		counts(t, b, 256, 1<<line-1)
		is(t, "Raise", b.Raise(line), api.OK)
	}
	counts(t, b, 256, 255)
}

// P22.4: each line does what it is bound to, as often as it calls, and nothing of the others.
func TestEachLine(t *testing.T) {
	for line := range api.MaxLines {
		b := called(t)
		is(t, "Raise", b.Raise(line), api.OK)
		counts(t, b, 256, 1<<line)
		s := makes(t, b, api.KiCount, 3, 5)
		is(t, "Bind", b.Bind(line, api.Bind{H: s, V: 7}), api.OK)
		counts(t, b, s, 3) // Bind is no call
		for _, want := range []uint32{4, 5, 5, 5} {
			is(t, "Raise", b.Raise(line), api.OK) // a semaphore that is full is no error of the line's
			counts(t, b, s, want)
		}
		counts(t, b, 256, 1<<line)
	}
}

// P22.4: one that is masked is not heard; however often it called, it calls once, when it is heard again.
func TestMasked(t *testing.T) {
	for line := range api.MaxLines {
		b := called(t)
		s := makes(t, b, api.KiCount, 0, 9)
		is(t, "Bind", b.Bind(line, api.Bind{H: s}), api.OK)
		for _, on := range []bool{true, false, true, true} {
			is(t, "Mask", b.Mask(line, on), api.OK)
			counts(t, b, s, 0)
		}
		for range 3 {
			is(t, "Raise", b.Raise(line), api.OK)
			is(t, "Mask", b.Mask(line, true), api.OK)
			ticks(t, b, 1)
			does(t, b, 9, 0)
			counts(t, b, s, 0)
		}
		other := (line + 3) % api.MaxLines
		is(t, "Mask", b.Mask(other, false), api.OK)
		is(t, "Raise", b.Raise(other), api.OK)
		counts(t, b, 256, 1<<other)
		counts(t, b, s, 0)
		is(t, "Mask", b.Mask(line, false), api.OK)
		counts(t, b, s, 1)
		is(t, "Mask", b.Mask(line, false), api.OK)
		counts(t, b, s, 1)
		is(t, "Raise", b.Raise(line), api.OK)
		counts(t, b, s, 2)
		counts(t, b, 256, 1<<other)
	}
}

// P22.4: several lines that are masked and call at once are served each when it is heard, and but then.
func TestSeveralLines(t *testing.T) {
	b := called(t)
	waits := loads(t, b, 5, "set r0 256", "set r1 191", "set r2 1", "set r3 9", "ask 11", "tell r1", "go 6")
	does(t, b, 9, 5)
	for line := range api.MaxLines {
		is(t, "Mask", b.Mask(line, true), api.OK)
		is(t, "Raise", b.Raise(line), api.OK)
	}
	counts(t, b, 256, 0)
	sum := uint32(0)
	for _, line := range []int{5, 0, 7, 1, 2, 4, 3} {
		begin(t, b, waits, 256, 191, 1, 9)
		does(t, b, 9, 0)
		is(t, "Mask", b.Mask(line, false), api.OK)
		sum += 1 << line
		counts(t, b, 256, sum)
	}
	does(t, b, 9, 9) // it waits for all but the line 6
	says(t, b, waits, "\xbf")
	is(t, "Mask", b.Mask(6, false), api.OK)
	counts(t, b, 256, 255)
}

// P22.4: a line that is bound to nothing, to one that never was, that is gone, that takes no signal, is heard, and does nothing.
func TestBoundToNothing(t *testing.T) {
	b := begins(t, 2)
	for _, m := range []api.Make{
		{Kind: api.KiLock}, {Kind: api.KiRow, A: 2}, {Kind: api.KiPool, A: 1, B: 8}, {Kind: api.KiCount, B: 9}, {Kind: api.KiAlarm, A: 259}, {Kind: api.KiFlags}, {Kind: api.KiFlags},
	} {
		makes(t, b, m.Kind, m.A, m.B)
	}
	is(t, "Drop", b.Kernel().Drop(262), api.OK)
	before := viewOf(b)
	for line := range api.MaxLines {
		is(t, "Raise", b.Raise(line), api.OK) // bound to nothing from the beginning on
		for _, h := range []uint32{0, 1, 255, 256, 257, 258, 260, 262, 263, 518, 1<<32 - 1} {
			is(t, "Bind", b.Bind(line, api.Bind{H: h, V: 5}), api.OK)
			is(t, "Raise", b.Raise(line), api.OK)
			is(t, "Mask", b.Mask(line, true), api.OK)
			is(t, "Raise", b.Raise(line), api.OK)
			is(t, "Mask", b.Mask(line, false), api.OK)
		}
	}
	isSeen(t, b, before)
	makes(t, b, api.KiFlags, 0, 0) // 518
	is(t, "Bind", b.Bind(3, api.Bind{H: 261, V: 5}), api.OK)
	counts(t, b, 261, 0) // that it called was told: it calls no more
	for _, line := range []int{0, 7} {
		is(t, "Raise", b.Raise(line), api.OK)
	}
	counts(t, b, 518, 0)
	is(t, "Bind", b.Bind(7, api.Bind{H: 518, V: 6}), api.OK)
	counts(t, b, 518, 0)
	is(t, "Raise", b.Raise(7), api.OK)
	counts(t, b, 518, 6)
}

// P22.4: what a line calls for is what it is bound to when it is heard, not when it was raised.
func TestBoundAnew(t *testing.T) {
	b := called(t)
	s := makes(t, b, api.KiCount, 0, 9)
	is(t, "Mask", b.Mask(2, true), api.OK)
	is(t, "Raise", b.Raise(2), api.OK)
	is(t, "Bind", b.Bind(2, api.Bind{H: s}), api.OK)
	counts(t, b, s, 0)
	is(t, "Mask", b.Mask(2, false), api.OK)
	counts(t, b, s, 1)
	counts(t, b, 256, 0)

	is(t, "Mask", b.Mask(2, true), api.OK)
	is(t, "Bind", b.Bind(2, api.Bind{}), api.OK)
	is(t, "Raise", b.Raise(2), api.OK)
	is(t, "Mask", b.Mask(2, false), api.OK) // heard, for nothing
	is(t, "Bind", b.Bind(2, api.Bind{H: s}), api.OK)
	is(t, "Mask", b.Mask(2, true), api.OK)
	is(t, "Mask", b.Mask(2, false), api.OK)
	counts(t, b, s, 1)

	is(t, "Mask", b.Mask(2, true), api.OK)
	is(t, "Raise", b.Raise(2), api.OK)
	is(t, "Bind", b.Bind(2, api.Bind{H: 0, V: 9}), api.OK)
	is(t, "Bind", b.Bind(2, api.Bind{H: 256, V: 64}), api.OK)
	is(t, "Mask", b.Mask(2, false), api.OK)
	counts(t, b, s, 1)
	counts(t, b, 256, 64)
}

// P22.4: two lines may be bound to one thing, and the flags that one raises are its V's alone.
func TestLinesOfOneThing(t *testing.T) {
	b := called(t)
	is(t, "Bind", b.Bind(4, api.Bind{H: 256, V: 1<<31 + 1}), api.OK)
	is(t, "Bind", b.Bind(5, api.Bind{H: 256}), api.OK)
	is(t, "Raise", b.Raise(5), api.OK)
	counts(t, b, 256, 0)
	is(t, "Raise", b.Raise(4), api.OK)
	counts(t, b, 256, 1<<31+1)
	is(t, "Raise", b.Raise(0), api.OK)
	is(t, "Raise", b.Raise(1), api.OK)
	counts(t, b, 256, 1<<31+3)
}

// P22.4: Tick is the kernel's: sleeps and waits end, slices end, alarms come; no line is heard by it.
func TestTick(t *testing.T) {
	b := begins(t, 2)
	s := makes(t, b, api.KiCount, 0, 9)
	a := makes(t, b, api.KiAlarm, s, 0)
	is(t, "Bind", b.Bind(1, api.Bind{H: s}), api.OK)
	is(t, "Mask", b.Mask(1, true), api.OK)
	is(t, "Raise", b.Raise(1), api.OK)
	h := loads(t, b, 3, "set r0 257", "set r1 2", "set r2 3", "ask 16", "set r3 3", "ask 2", "go 6")
	other := loads(t, b, 3, "go 0")
	third := loads(t, b, 3, "go 0")
	does(t, b, 6, 6)
	for i, want := range []struct {
		count uint32
		left  int64
		runs  uint32
	}{{0, 1, other}, {1, 3, third}, {1, 2, third}, {1, 1, other}, {2, 3, other}, {2, 2, h}} {
		is(t, "Tick", b.Tick(), api.OK)
		counts(t, b, s, want.count)
		if x := thingOf(t, b, a); x.Left != want.left {
			t.Fatalf("tick %d: the alarm has %d left, want %d", i+1, x.Left, want.left)
		}
		if b.Kernel().Now() != uint32(i+1) {
			t.Fatalf("Now() = %d behind %d ticks", b.Kernel().Now(), i+1)
		}
		if got := b.Kernel().Runs(); got != want.runs {
			t.Fatalf("tick %d: %d runs, want %d", i+1, got, want.runs)
		}
	}
}
