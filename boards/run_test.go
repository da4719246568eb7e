package boards

import (
	"math"
	"testing"

	"timekeeper/api"
)

// P22.3: n is 0 to MaxRun; beyond, nothing is done.
func TestRunRange(t *testing.T) {
	b := begins(t, 2)
	h := loads(t, b, 3, "set r1 1", "add r0 r0 r1", "go 1")
	for _, n := range []int{-1, math.MinInt, api.MaxRun + 1, math.MaxInt, 1 << 32} {
		if got, e := b.Run(n); got != 0 || e != api.ErrRange {
			t.Errorf("Run(%d) = %d, error %d", n, got, e)
		}
	}
	holds(t, b, h)
	does(t, b, 0, 0)
	holds(t, b, h)
	does(t, b, 1, 1)
	holds(t, b, h, 0, 1)
	does(t, b, 1, 1)
	holds(t, b, h, 1, 1)
	does(t, b, api.MaxRun, api.MaxRun)
	holds(t, b, h, 500001, 1)
	does(t, b, api.MaxRun-1, api.MaxRun-1)
	holds(t, b, h, 1000000, 1)
}

// P22.3: nothing runs, where there is no task, where all are held, wait, or are at fault.
func TestRunOfNobody(t *testing.T) {
	b := begins(t, 2)
	for _, n := range []int{0, 1, 2, api.MaxRun} {
		does(t, b, n, 0)
	}
	held := loads(t, b, 3, "go 0")
	is(t, "Hold", b.Kernel().Hold(held), api.OK)
	fault := loads(t, b, 3)
	does(t, b, 9, 1)
	does(t, b, 9, 0)
	sleeps := loads(t, b, 3, "set r3 5", "ask 2")
	does(t, b, 9, 2)
	does(t, b, 9, 0)
	ends := loads(t, b, 3, "end")
	does(t, b, 9, 1)
	does(t, b, 9, 0)
	looks(t, b, "256 ready held 3 3 - 0 0 0", "257 fault - 3 3 - 0 0 0", "258 waits - 3 3 2 0 0 0 5 0 0 0")
	holds(t, b, held)
	holds(t, b, fault)
	holds(t, b, sleeps, 0, 0, 0, 5)
	if _, e := b.Regs(ends); e != api.ErrStale {
		t.Errorf("Regs of one that ended: error %d", e)
	}
}

// P22.3: until a bare one runs, even if there are others; as long as one of a greater rank does, it is not in the way.
func TestRunOfABareOne(t *testing.T) {
	b := begins(t, 2)
	low := loads(t, b, 2, "go 0")
	does(t, b, 3, 3)
	between := bare(t, b, 3)
	for _, n := range []int{0, 1, 7, api.MaxRun} {
		does(t, b, n, 0)
	}
	high := loads(t, b, 4, "set r1 66", "tell r1", "end")
	does(t, b, 9, 3)
	runs(t, b, between)
	does(t, b, 9, 0)
	is(t, "Hold", b.Kernel().Hold(between), api.OK)
	does(t, b, 9, 9)
	is(t, "Free", b.Kernel().Free(between), api.OK)
	does(t, b, 9, 0)
	is(t, "End", b.Kernel().End(between), api.OK)
	does(t, b, 9, 9)
	runs(t, b, low)
	if _, e := b.Console(high); e != api.ErrStale {
		t.Errorf("Console of one that ended: error %d", e)
	}
}

// P22.3: a bare one that comes to run in the middle of it: by what the task ahead of it, of its rank, does.
func TestRunComesToABareOne(t *testing.T) {
	for name, c := range map[string]struct {
		lines []string
		done  int
	}{
		"ends":     {[]string{"set r0 256", "end", "nop"}, 2},
		"fault":    {[]string{"nop", "nop", "nop", "load r0 r0 0", "nop"}, 4},
		"no code":  {nil, 1},
		"sleeps":   {[]string{"set r3 1", "ask 2", "nop"}, 2},
		"its rank": {[]string{"set r1 4", "ask 18", "nop"}, 2},
		"yields":   {[]string{"ask 1", "nop"}, 1},
	} {
		b := begins(t, 9)
		h := loads(t, b, 5, c.lines...)
		other := bare(t, b, 5)
		runs(t, b, h)
		if n, e := b.Run(20); n != c.done || e != api.OK {
			t.Errorf("%s: Run(20) = %d, error %d, want %d", name, n, e, c.done)
		}
		runs(t, b, other)
		does(t, b, 20, 0)
	}
}

// P22.3: a bare one for which a core's task gives what it waits for runs at once, as its rank is greater.
func TestRunWakesABareOne(t *testing.T) {
	b := begins(t, 9)
	s := makes(t, b, api.KiCount, 0, 9)
	other := bare(t, b, 5)
	outside(t, b, api.Ask{What: api.WhTake, H: s, Wait: -1}, false, api.OK)
	h := loads(t, b, 3, "set r0 256", "nop", "ask 4", "tell r0", "go 3")
	does(t, b, 20, 3)
	runs(t, b, other)
	looks(t, b, "256 ready - 5 5 - 1 0 0", "257 ready - 3 3 - 1 0 0")
	holds(t, b, h)
	outside(t, b, api.Ask{What: api.WhTake, H: s, Wait: 2}, false, api.OK)
	does(t, b, 20, 20)
	ticks(t, b, 2)
	does(t, b, 20, 0)
	is(t, "End", b.Kernel().End(other), api.OK)
	does(t, b, 20, 20)
	says(t, b, h, string(make([]byte, 20)))
}

// P22.3: a fault counts as one, be it the first, a middle or the last instruction of a run; the others go on.
func TestRunFault(t *testing.T) {
	wrong := []string{"load r0 r1 0", "store r0 r1 0", "byte r0 r1 0", "put r0 r1 0"}
	for _, w := range wrong {
		for at := range 6 {
			for _, n := range []int{0, 1, at, at + 1, at + 2, 20} {
				b := begins(t, 2)
				var lines []string
				for range at {
					lines = append(lines, "tell r0")
				}
				h := loads(t, b, 5, append(lines, w)...)
				low := loads(t, b, 1, "tell r0", "go 0")
				does(t, b, n, n)
				told := min(n, at)
				says(t, b, h, string(make([]byte, told)))
				holds(t, b, h)
				if n > at {
					looks(t, b, "256 fault - 5 5 - 0 0 0", "257 ready - 1 1 - 0 0 0")
					says(t, b, low, string(make([]byte, (n-at)/2)))
				} else {
					looks(t, b, "256 ready - 5 5 - 0 0 0", "257 ready - 1 1 - 0 0 0")
					says(t, b, low, "")
				}
			}
		}
	}
}

// P22.3: where the fault is the last thing that can be done, it is counted, and nothing further.
func TestRunFaultAlone(t *testing.T) {
	for at := range 5 {
		b := begins(t, 2)
		lines := []string{"nop", "nop", "nop", "nop", "nop"}[:at]
		h := loads(t, b, 5, append(lines, "load r0 r1 0", "nop")...)
		does(t, b, 9, at+1)
		does(t, b, 9, 0)
		looks(t, b, "256 fault - 5 5 - 0 0 0")
		holds(t, b, h)
	}
}

// P22.3: a core that is outside of its code is at fault: behind the last instruction, ahead of the first, by go.
func TestRunOutside(t *testing.T) {
	for name, c := range map[string]struct {
		lines []string
		done  int
	}{
		"behind the last one":     {[]string{"nop", "nop"}, 3},
		"no code":                 {nil, 1},
		"ahead of the first one":  {[]string{"same r0 r0 -2"}, 2},
		"by go":                   {[]string{"go 65535"}, 2},
		"just behind the last":    {[]string{"nop", "go 2"}, 3},
		"far behind the last one": {[]string{"same r0 r0 127"}, 2},
	} {
		b := begins(t, 2)
		loads(t, b, 5, c.lines...)
		if n, e := b.Run(9); n != c.done || e != api.OK {
			t.Errorf("%s: Run(9) = %d, error %d, want %d", name, n, e, c.done)
		}
		looks(t, b, "256 fault - 5 5 - 0 0 0")
	}
}

// P22.3, P0.4: who is at fault lets go: who waits has it within the same run, and runs.
func TestRunFaultLetsGo(t *testing.T) {
	b := begins(t, 2)
	l, p := makes(t, b, api.KiLock, 0, 0), makes(t, b, api.KiPool, 1, 8)
	low := loads(t, b, 1, "set r0 256", "ask 5", "set r0 257", "ask 14", "set r3 1", "set r0 0", "ask 2", "load r0 r2 9", "nop")
	does(t, b, 20, 7) // it has both, and sleeps
	high := loads(t, b, 5, "set r0 256", "set r3 1000", "ask 5", "tell r0", "tell r1", "set r0 257", "ask 14", "tell r0", "tell r1", "set r0 258", "ask 3", "tell r0")
	does(t, b, 20, 3) // it waits for the mutex
	ticks(t, b, 1)
	runs(t, b, low)
	does(t, b, 1, 1) // the fault
	runs(t, b, high)
	if thingOf(t, b, l).Owner != high || thingOf(t, b, p).Owners[0] != 0 {
		t.Fatal("the one at fault has not let go")
	}
	begin(t, b, high, 0, 0, 0, 1000)
	does(t, b, 6, 6)
	says(t, b, high, "\x00\x00\x00\x00")
	if thingOf(t, b, p).Owners[0] != high {
		t.Fatal("the block is not the high one's")
	}
	does(t, b, 20, 4) // ErrHandle of a thing that is not there; its own fault, behind its code
	says(t, b, high, "\x00\x00\x00\x00\x05")
	begin(t, b, low, 0, 0, 0, 1)
}

// P22.3, Words: the same at once: who is answered by the fault of another one has that behind the instruction at fault, ahead of the next one.
func TestRunFaultAnswers(t *testing.T) {
	for fault, count := range map[string]int{"load r0 r2 9": 1, "go 999": 2} {
		b := begins(t, 2)
		makes(t, b, api.KiLock, 0, 0)
		low := loads(t, b, 1, "set r0 256", "ask 5", "set r3 1", "ask 2", fault)
		does(t, b, 20, 4) // it has the mutex, and sleeps
		high := loads(t, b, 5, "set r0 256", "set r3 1000", "ask 5", "tell r0", "tell r1", "go 3")
		does(t, b, 20, 3) // it waits for the mutex
		ticks(t, b, 1)
		runs(t, b, low)
		does(t, b, count+2, count+2)
		says(t, b, high, "\x00\x00")
		begin(t, b, high, 0, 0, 0, 1000)
	}
}

// P22.3: within one run, tasks run by their ranks, one behind the other.
func TestRunByRanks(t *testing.T) {
	b := begins(t, 2)
	l := []uint32{
		loads(t, b, 1, "set r1 65", "tell r1", "end"),
		loads(t, b, 7, "set r1 66", "tell r1", "set r1 0", "ask 18", "tell r0", "end"),
		loads(t, b, 4, "set r1 67", "tell r1", "set r3 1", "ask 2", "tell r0", "end"),
	}
	does(t, b, 4, 4) // the rank 7, down to 0
	says(t, b, l[1], "B")
	does(t, b, 4, 4) // the rank 4, asleep
	says(t, b, l[2], "C")
	does(t, b, 2, 2) // the rank 1
	says(t, b, l[0], "A")
	does(t, b, 2, 2) // its end, and the rank 0
	says(t, b, l[1], "B\x00")
	does(t, b, 9, 1) // the last end; one sleeps
	ticks(t, b, 1)
	begin(t, b, l[2], 0, 0, 0, 1)
	does(t, b, 9, 2)
	looks(t, b)
}

// P22.3, P0.1: those of one rank give way by WhYield, in turns.
func TestRunYields(t *testing.T) {
	b := begins(t, 1000)
	s := makes(t, b, api.KiRow, 64, 0)
	for i := range 3 {
		loads(t, b, 2, "set r4 "+string(rune('0'+i)), "set r0 256", "move r1 r4", "ask 7", "ask 1", "go 1")
	}
	does(t, b, 30, 30)
	if got := thingOf(t, b, s).Row; len(got) != 6 || got[0] != 0 || got[1] != 1 || got[2] != 2 || got[3] != 0 || got[4] != 1 || got[5] != 2 {
		t.Fatalf("the messages %v", got)
	}
}

// P22.3: Run does not let a tick go by.
func TestRunIsNoTick(t *testing.T) {
	b := begins(t, 1)
	h := loads(t, b, 2, "ask 19", "go 0")
	other := loads(t, b, 2, "go 0")
	does(t, b, 1000, 1000)
	holds(t, b, h)
	runs(t, b, h)
	ticks(t, b, 3)
	runs(t, b, other)
	ticks(t, b, 1)
	does(t, b, 1, 1)
	holds(t, b, h, 0, 4)
}
