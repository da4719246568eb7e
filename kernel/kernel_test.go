package kernel

import (
	"math"
	"slices"
	"testing"

	"timekeeper/api"
	"timekeeper/tasks"
)

// starts a kernel with tasks of those ranks.
func starts(t *testing.T, slice int, ranks ...int) (*Kernel, []uint32) {
	t.Helper()
	k, e := New(api.Setup{Slice: slice})
	if e != api.OK {
		t.Fatalf("New: error %d", e)
	}
	var l []uint32
	for _, rank := range ranks {
		l = append(l, comes(t, k, rank))
	}
	return k, l
}

// comes is a task that does.
func comes(t *testing.T, k *Kernel, rank int) uint32 {
	t.Helper()
	h, e := k.Task(rank)
	if e != api.OK {
		t.Fatalf("Task(%d): error %d", rank, e)
	}
	return h
}

func makes(t *testing.T, k *Kernel, kind api.Kind, a, b uint32) uint32 {
	t.Helper()
	h, e := k.Thing(api.Make{Kind: kind, A: a, B: b})
	if e != api.OK {
		t.Fatalf("Thing(%d, %d, %d): error %d", kind, a, b, e)
	}
	return h
}

func asks(t *testing.T, k *Kernel, a api.Ask, answered bool, want api.Errno) {
	t.Helper()
	if got, e := k.Ask(a); got != answered || e != want {
		t.Fatalf("Ask(%+v) = %v, error %d, want %v, error %d", a, got, e, answered, want)
	}
}

// does is whether the task that runs is answered OK at once.
func does(t *testing.T, k *Kernel, a api.Ask) {
	t.Helper()
	asks(t, k, a, true, api.OK)
}

// begins is whether the task that runs begins to wait.
func begins(t *testing.T, k *Kernel, a api.Ask) {
	t.Helper()
	asks(t, k, a, false, api.OK)
}

func is(t *testing.T, call string, got, want api.Errno) {
	t.Helper()
	if got != want {
		t.Fatalf("%s: error %d, want %d", call, got, want)
	}
}

func runs(t *testing.T, k *Kernel, want uint32) {
	t.Helper()
	if h := k.Runs(); h != want {
		t.Fatalf("Runs() = %d, want %d", h, want)
	}
}

func ticks(t *testing.T, k *Kernel, n int) {
	t.Helper()
	for range n {
		is(t, "Tick", k.Tick(), api.OK)
	}
}

// looks is whether all tasks are seen so, by their places.
func looks(t *testing.T, k *Kernel, want ...string) {
	t.Helper()
	var got []string
	for _, x := range k.Tasks() {
		got = append(got, tasks.Text(x))
	}
	if !slices.Equal(got, want) {
		t.Fatalf("Tasks() are\n%q, want\n%q", got, want)
	}
}

func taskOf(t *testing.T, k *Kernel, h uint32) api.Task {
	t.Helper()
	for _, x := range k.Tasks() {
		if x.Handle == h {
			return x
		}
	}
	t.Fatalf("task %d is not there", h)
	return api.Task{}
}

func thingOf(t *testing.T, k *Kernel, h uint32) api.Thing {
	t.Helper()
	for _, x := range k.Things() {
		if x.Handle == h {
			return x
		}
	}
	t.Fatalf("thing %d is not there", h)
	return api.Thing{}
}

// isReady is whether those may run, of a rank, in this order.
func isReady(t *testing.T, k *Kernel, rank int, want ...uint32) {
	t.Helper()
	if got := k.Ready(rank); !slices.Equal(got, want) {
		t.Fatalf("Ready(%d) = %v, want %v", rank, got, want)
	}
}

// waiting is whether those wait for a thing, in this order.
func waiting(t *testing.T, k *Kernel, h uint32, want ...uint32) {
	t.Helper()
	if got := thingOf(t, k, h).Waits; !slices.Equal(got, want) {
		t.Fatalf("for %d wait %v, want %v", h, got, want)
	}
}

// ranked is whether the tasks have these ranks, by their places.
func ranked(t *testing.T, k *Kernel, want ...int) {
	t.Helper()
	var got []int
	for _, x := range k.Tasks() {
		got = append(got, x.Rank)
	}
	if !slices.Equal(got, want) {
		t.Fatalf("ranks are %v, want %v", got, want)
	}
}

// Such as are asked most.

func take(h uint32, wait int64) api.Ask { return api.Ask{What: api.WhTake, H: h, Wait: wait} }
func give(h uint32) api.Ask             { return api.Ask{What: api.WhGive, H: h} }
func lock(h uint32, wait int64) api.Ask { return api.Ask{What: api.WhLock, H: h, Wait: wait} }
func unlock(h uint32) api.Ask           { return api.Ask{What: api.WhUnlock, H: h} }
func sleep(ticks int64) api.Ask         { return api.Ask{What: api.WhSleep, Wait: ticks} }
func get(h uint32, wait int64) api.Ask  { return api.Ask{What: api.WhGet, H: h, Wait: wait} }
func put(h, v uint32, wait int64) api.Ask {
	return api.Ask{What: api.WhPut, H: h, V: v, Wait: wait}
}
func await(h, v, m uint32, wait int64) api.Ask {
	return api.Ask{What: api.WhAwait, H: h, V: v, M: m, Wait: wait}
}
func alloc(h uint32, wait int64) api.Ask { return api.Ask{What: api.WhAlloc, H: h, Wait: wait} }

// P20.1: the slice is 1 to MaxSlice.
func TestNewSlice(t *testing.T) {
	for _, slice := range []int{1, 2, 999, 1000} {
		if k, e := New(api.Setup{Slice: slice, Now: 7}); k == nil || e != api.OK {
			t.Errorf("New(slice %d): %v, error %d", slice, k, e)
		}
	}
	for _, slice := range []int{math.MinInt, -1 << 32, -1000, -1, 0, 1001, 1 << 32, 1<<32 + 1, math.MaxInt} {
		if k, e := New(api.Setup{Slice: slice, Now: 7}); k != nil || e != api.ErrArg {
			t.Errorf("New(slice %d): %v, error %d, want none, error 1", slice, k, e)
		}
	}
}

// P20.1, P20.9: the first tick is Now, without tasks and things; ticks go round.
func TestNewNow(t *testing.T) {
	for _, now := range []uint32{0, 1, 1 << 31, 1<<32 - 3, 1<<32 - 1} {
		k, _ := New(api.Setup{Slice: 1, Now: now})
		if k.Now() != now || k.Runs() != 0 || len(k.Tasks()) != 0 || len(k.Things()) != 0 {
			t.Errorf("New(now %d): %d, %d, %v, %v", now, k.Now(), k.Runs(), k.Tasks(), k.Things())
		}
		for i := range uint32(5) {
			ticks(t, k, 1)
			if k.Now() != now+i+1 {
				t.Errorf("tick %d of %d: Now() = %d", i, now, k.Now())
			}
		}
	}
}

// P20.2: a task's rank is 0 to MaxRank; it is ready, with that rank, and has had no answer.
func TestTask(t *testing.T) {
	k, _ := starts(t, 1)
	for _, rank := range []int{math.MinInt, -1 << 32, -1, 32, 33, 1 << 32, math.MaxInt} {
		if h, e := k.Task(rank); h != 0 || e != api.ErrRange {
			t.Errorf("Task(%d) = %d, error %d, want 0, error 4", rank, h, e)
		}
	}
	comes(t, k, 0)
	comes(t, k, 31)
	comes(t, k, 5)
	looks(t, k, "256 ready - 0 0 - 0 0 0", "257 ready - 31 31 - 0 0 0", "258 ready - 5 5 - 0 0 0")
	runs(t, k, 257)
}

// P20.2: there are MaxTasks at most; a rank that may not be is told first, and a place that is free again has another handle.
func TestTaskMany(t *testing.T) {
	k, l := starts(t, 1, make([]int, 16)...)
	if h, e := k.Task(0); h != 0 || e != api.ErrMany {
		t.Errorf("the 17th: %d, error %d", h, e)
	}
	if h, e := k.Task(32); h != 0 || e != api.ErrRange {
		t.Errorf("the 17th, of rank 32: %d, error %d", h, e)
	}
	isReady(t, k, 0, l...)
	is(t, "End", k.End(l[4]), api.OK)
	if h := comes(t, k, 0); h != 512+4 {
		t.Errorf("of the place 4: %d", h)
	}
	if _, e := k.Task(0); e != api.ErrMany {
		t.Errorf("again the 17th: error %d", e)
	}
}

// P20.2: a task joins as the last one of its rank.
func TestTaskJoins(t *testing.T) {
	k, l := starts(t, 1, 4, 4)
	does(t, k, api.Ask{What: api.WhYield})
	isReady(t, k, 4, l[1], l[0])
	l = append(l, comes(t, k, 4))
	isReady(t, k, 4, l[1], l[0], l[2])
	runs(t, k, l[1])
}

// inEachWay is a kernel of a task that waits for a semaphore, one that sleeps, one that runs, one that may run, and one that is held.
func inEachWay(t *testing.T) (*Kernel, []uint32, uint32) {
	t.Helper()
	k, l := starts(t, 3, 9, 8, 7, 6, 5)
	s := makes(t, k, api.KiCount, 0, 1)
	begins(t, k, take(s, 2))
	begins(t, k, sleep(2))
	is(t, "Hold", k.Hold(l[4]), api.OK)
	return k, l, s
}

// P20.2: one that ends, whatever it does, is no more, and neither runs nor waits.
func TestEnd(t *testing.T) {
	k, l, s := inEachWay(t)
	runs(t, k, l[2])
	for i := range l {
		is(t, "End", k.End(l[i]), api.OK)
		is(t, "End again", k.End(l[i]), api.ErrStale)
		if len(k.Tasks()) != 4-i {
			t.Fatalf("behind %d: %v", i, k.Tasks())
		}
	}
	waiting(t, k, s)
	ticks(t, k, 3)
	runs(t, k, 0)
	is(t, "Signal", k.Signal(api.Bind{H: s}), api.OK)
	if x := thingOf(t, k, s); x.Count != 1 {
		t.Errorf("it was given to nobody: %+v", x)
	}
	if h := comes(t, k, 1); h != 512 {
		t.Errorf("the next one is %d", h)
	}
	looks(t, k, "512 ready - 1 1 - 0 0 0")
}

// P20.2, P20.3, P20.11: one that ends, or is at fault, waits for no kind of thing any more: what is there behind that is another one's.
func TestEndWaits(t *testing.T) {
	makings := []api.Make{{Kind: api.KiCount, B: 1}, {Kind: api.KiLock}, {Kind: api.KiRow, A: 1}, {Kind: api.KiRow, A: 1}, {Kind: api.KiRow, A: 1}, {Kind: api.KiFlags}, {Kind: api.KiPool, A: 1, B: 1}}
	first := []api.What{api.WhNow, api.WhLock, api.WhPut, api.WhPut, api.WhNow, api.WhNow, api.WhAlloc}
	waited := []api.What{api.WhTake, api.WhLock, api.WhPut, api.WhPush, api.WhGet, api.WhAwait, api.WhAlloc}
	given := []api.Ask{{What: api.WhGive}, {What: api.WhUnlock}, {What: api.WhGet}, {What: api.WhGet}, {What: api.WhPut}, {What: api.WhRaise, V: 1}, {What: api.WhFree}}
	for i, m := range makings {
		for way := range 4 {
			k, l := starts(t, 9, 1)
			h := makes(t, k, m.Kind, m.A, m.B)
			does(t, k, api.Ask{What: first[i], H: h})
			one := comes(t, k, 7)
			begins(t, k, api.Ask{What: waited[i], H: h, V: 1, Wait: -1})
			other := comes(t, k, 8)
			begins(t, k, api.Ask{What: waited[i], H: h, V: 1, Wait: 5})
			waiting(t, k, h, other, one)
			if way%2 == 1 {
				one, other = other, one
			}
			if way < 2 {
				is(t, "End", k.End(one), api.OK)
			} else {
				is(t, "Fault", k.Fault(one), api.OK)
			}
			waiting(t, k, h, other)
			runs(t, k, l[0])
			given[i].H = h
			does(t, k, given[i])
			if x := taskOf(t, k, other); x.State != api.StReady || x.Answers != 1 || x.Last != api.OK {
				t.Errorf("%v: the other one: %+v", m, x)
			}
			ticks(t, k, 6)
			if x := taskOf(t, k, other); x.Answers != 1 {
				t.Errorf("%v: the other one, later: %+v", m, x)
			}
		}
	}
}

// P20.2, P20.3, P20.11: what it had goes to those that wait, in order; ranks that were lent fall; messages stay.
func TestLetsGo(t *testing.T) {
	for _, isEnd := range []bool{true, false} {
		k, l := starts(t, 9, 1)
		p, m, q := makes(t, k, api.KiPool, 2, 1), makes(t, k, api.KiLock, 0, 0), makes(t, k, api.KiRow, 2, 0)
		does(t, k, alloc(p, 0))
		does(t, k, alloc(p, 0))
		does(t, k, lock(m, 0))
		does(t, k, put(q, 77, 0))
		a := comes(t, k, 6)
		begins(t, k, alloc(p, -1))
		b := comes(t, k, 7)
		begins(t, k, alloc(p, 3))
		comes(t, k, 5)
		begins(t, k, alloc(p, -1))
		d := comes(t, k, 4)
		begins(t, k, lock(m, -1))
		runs(t, k, l[0])
		begins(t, k, sleep(9))
		comes(t, k, 3)
		begins(t, k, lock(m, -1))
		looks(t, k, "256 waits - 1 4 2 0 0 0 9 4 0 0", "257 waits - 6 6 14 256 0 0 -1 0 0 0", "258 waits - 7 7 14 256 0 0 3 0 0 0",
			"259 waits - 5 5 14 256 0 0 -1 0 0 0", "260 waits - 4 4 5 257 0 0 -1 0 0 0", "261 waits - 3 3 5 257 0 0 -1 0 0 0")
		behind := []string{"257 ready - 6 6 - 1 0 1", "258 ready - 7 7 - 1 0 0", "259 waits - 5 5 14 256 0 0 -1 0 0 0",
			"260 ready - 4 4 - 1 0 0", "261 waits - 3 3 5 257 0 0 -1 0 0 0"}
		if isEnd {
			is(t, "End", k.End(l[0]), api.OK)
			looks(t, k, behind...)
		} else {
			is(t, "Fault", k.Fault(l[0]), api.OK)
			looks(t, k, append([]string{"256 fault - 1 4 - 4 0 0"}, behind...)...)
		}
		if x := thingOf(t, k, p); !slices.Equal(x.Owners, []uint32{b, a}) || x.Count != 0 {
			t.Errorf("blocks: %+v", x)
		}
		if x := thingOf(t, k, m); x.Owner != d {
			t.Errorf("the mutex: %+v", x)
		}
		if x := thingOf(t, k, q); !slices.Equal(x.Row, []uint32{77}) {
			t.Errorf("messages: %+v", x)
		}
	}
}

// P20.2, P20.3: of several things those of lesser places are served first.
func TestLetsGoByPlaces(t *testing.T) {
	for _, isEnd := range []bool{true, false} {
		k, l := starts(t, 9, 1)
		a, b := makes(t, k, api.KiLock, 0, 0), makes(t, k, api.KiPool, 1, 1)
		does(t, k, alloc(b, 0))
		does(t, k, lock(a, 0))
		x := comes(t, k, 5)
		begins(t, k, alloc(b, -1))
		y := comes(t, k, 5)
		begins(t, k, lock(a, -1))
		if isEnd {
			is(t, "End", k.End(l[0]), api.OK)
		} else {
			is(t, "Fault", k.Fault(l[0]), api.OK)
		}
		isReady(t, k, 5, y, x)
	}
}

// P20.2, P20.3: what one that waits for more of it had is another one's, and not its own again.
func TestLetsGoOfMore(t *testing.T) {
	for _, isEnd := range []bool{true, false} {
		k, l := starts(t, 9, 8, 7)
		p := makes(t, k, api.KiPool, 1, 1)
		does(t, k, alloc(p, 0))
		begins(t, k, alloc(p, -1))
		begins(t, k, alloc(p, -1))
		waiting(t, k, p, l...)
		if isEnd {
			is(t, "End", k.End(l[0]), api.OK)
		} else {
			is(t, "Fault", k.Fault(l[0]), api.OK)
			if x, want := taskOf(t, k, l[0]), (api.Task{Handle: l[0], State: api.StFault, Base: 8, Rank: 8, Answers: 1}); x != want {
				t.Errorf("at fault: %+v, want %+v", x, want)
			}
		}
		waiting(t, k, p)
		if x := thingOf(t, k, p); !slices.Equal(x.Owners, l[1:]) {
			t.Errorf("blocks: %+v", x)
		}
		runs(t, k, l[1])
	}
}

// P20.3: one at fault, whatever it did, does not run, is not answered, and cannot be held or have its rank set.
func TestFault(t *testing.T) {
	k, l, s := inEachWay(t)
	does(t, k, api.Ask{What: api.WhNow})
	asks(t, k, get(s, 0), true, api.ErrArg)
	for _, h := range l {
		is(t, "Fault", k.Fault(h), api.OK)
		is(t, "Fault again", k.Fault(h), api.ErrState)
		is(t, "Hold", k.Hold(h), api.ErrState)
		is(t, "Rank", k.Rank(h, 1), api.ErrState)
		is(t, "Rank of 32", k.Rank(h, 32), api.ErrRange)
	}
	want := []string{"256 fault - 9 9 - 0 0 0", "257 fault - 8 8 - 0 0 0", "258 fault - 7 7 - 2 1 0", "259 fault - 6 6 - 0 0 0", "260 fault held 5 5 - 0 0 0"}
	looks(t, k, want...)
	ticks(t, k, 3)
	is(t, "Signal", k.Signal(api.Bind{H: s}), api.OK)
	looks(t, k, want...)
	for rank := range 32 {
		isReady(t, k, rank)
	}
	runs(t, k, 0)
	asks(t, k, sleep(1), false, api.ErrState)
	is(t, "Free", k.Free(l[4]), api.OK)
	is(t, "Free", k.Free(l[0]), api.ErrState)
	looks(t, k, append(want[:4:4], "260 fault - 5 5 - 0 0 0")...)
	runs(t, k, 0)
	is(t, "End", k.End(l[0]), api.OK)
	looks(t, k, append(want[1:4:4], "260 fault - 5 5 - 0 0 0")...)
}

// P20.3: the rank of one at fault does not turn, though it was lent, and it lends none.
func TestFaultRank(t *testing.T) {
	k, l := starts(t, 9, 1)
	a, b := makes(t, k, api.KiLock, 0, 0), makes(t, k, api.KiLock, 0, 0)
	does(t, k, lock(a, 0))
	m := comes(t, k, 2)
	does(t, k, lock(b, 0))
	begins(t, k, lock(a, -1))
	comes(t, k, 9)
	begins(t, k, lock(b, -1))
	ranked(t, k, 9, 9, 9)
	is(t, "Fault", k.Fault(m), api.OK)
	looks(t, k, "256 ready - 1 1 - 1 0 0", "257 fault - 2 9 - 1 0 0", "258 ready - 9 9 - 1 0 0")
	is(t, "Rank", k.Rank(l[0], 5), api.OK)
	ranked(t, k, 5, 9, 9)
	comes(t, k, 3)
	ranked(t, k, 5, 9, 9, 3)
}

// P20.4: who is held does not run; it joins as the last one of its rank when it is free.
func TestHold(t *testing.T) {
	k, l := starts(t, 3, 5, 5, 2)
	is(t, "Free", k.Free(l[0]), api.ErrState)
	is(t, "Hold", k.Hold(l[0]), api.OK)
	is(t, "Hold again", k.Hold(l[0]), api.ErrState)
	looks(t, k, "256 ready held 5 5 - 0 0 0", "257 ready - 5 5 - 0 0 0", "258 ready - 2 2 - 0 0 0")
	isReady(t, k, 5, l[1])
	runs(t, k, l[1])
	is(t, "Hold", k.Hold(l[1]), api.OK)
	runs(t, k, l[2])
	is(t, "Hold", k.Hold(l[2]), api.OK)
	runs(t, k, 0)
	asks(t, k, api.Ask{What: api.WhNow}, false, api.ErrState)
	for _, h := range []uint32{l[1], l[2], l[0]} {
		is(t, "Free", k.Free(h), api.OK)
		is(t, "Free again", k.Free(h), api.ErrState)
	}
	isReady(t, k, 5, l[1], l[0])
	runs(t, k, l[1])
	is(t, "Hold of one that may run", k.Hold(l[0]), api.OK)
	isReady(t, k, 5, l[1])
}

// P20.4: who is held and waits is answered as others are, but joins when it is free alone.
func TestHoldWaits(t *testing.T) {
	k, l := starts(t, 9, 5, 5, 4, 1)
	s := makes(t, k, api.KiCount, 0, 3)
	begins(t, k, take(s, -1))
	begins(t, k, take(s, 2))
	begins(t, k, sleep(1))
	for _, h := range l[:3] {
		is(t, "Hold", k.Hold(h), api.OK)
		is(t, "Hold again", k.Hold(h), api.ErrState)
	}
	waiting(t, k, s, l[0], l[1])
	does(t, k, give(s))
	ticks(t, k, 2)
	looks(t, k, "256 ready held 5 5 - 1 0 0", "257 ready held 5 5 - 1 8 0", "258 ready held 4 4 - 1 0 0", "259 ready - 1 1 - 1 0 0")
	runs(t, k, l[3])
	is(t, "Free", k.Free(l[1]), api.OK)
	is(t, "Free", k.Free(l[0]), api.OK)
	isReady(t, k, 5, l[1], l[0])
}

// P20.4: who waits and is free again waits on.
func TestFreeWaits(t *testing.T) {
	k, l := starts(t, 9, 5)
	begins(t, k, sleep(3))
	is(t, "Hold", k.Hold(l[0]), api.OK)
	ticks(t, k, 1)
	is(t, "Free", k.Free(l[0]), api.OK)
	looks(t, k, "256 waits - 5 5 2 0 0 0 2 0 0 0")
	runs(t, k, 0)
	ticks(t, k, 2)
	runs(t, k, l[0])
}

// P20.4: a rank that turns lets one that may run join; the same rank again does not.
func TestRank(t *testing.T) {
	k, l := starts(t, 9, 5, 5, 5)
	for _, rank := range []int{math.MinInt, -1, 32, 1<<32 + 1, math.MaxInt} {
		is(t, "Rank", k.Rank(l[0], rank), api.ErrRange)
	}
	is(t, "Rank 5", k.Rank(l[0], 5), api.OK)
	isReady(t, k, 5, l...)
	is(t, "Rank 31", k.Rank(l[2], 31), api.OK)
	runs(t, k, l[2])
	is(t, "Rank 0", k.Rank(l[2], 0), api.OK)
	looks(t, k, "256 ready - 5 5 - 0 0 0", "257 ready - 5 5 - 0 0 0", "258 ready - 0 0 - 0 0 0")
	is(t, "Rank 4", k.Rank(l[0], 4), api.OK)
	is(t, "Rank 5", k.Rank(l[0], 5), api.OK)
	isReady(t, k, 5, l[1], l[0])
	is(t, "Hold", k.Hold(l[1]), api.OK)
	is(t, "Rank 6", k.Rank(l[1], 6), api.OK)
	isReady(t, k, 6)
	is(t, "Free", k.Free(l[1]), api.OK)
	isReady(t, k, 6, l[1])
}

// P20.4: who waits stands elsewhere by its new rank, behind those that have it already.
func TestRankWaits(t *testing.T) {
	k, l := starts(t, 9, 7, 6, 5, 1)
	s := makes(t, k, api.KiCount, 0, 5)
	begins(t, k, take(s, -1))
	begins(t, k, take(s, -1))
	begins(t, k, take(s, -1))
	waiting(t, k, s, l[0], l[1], l[2])
	is(t, "Rank", k.Rank(l[2], 7), api.OK)
	waiting(t, k, s, l[0], l[2], l[1])
	is(t, "Rank", k.Rank(l[0], 7), api.OK)
	waiting(t, k, s, l[0], l[2], l[1])
	is(t, "Rank", k.Rank(l[0], 6), api.OK)
	waiting(t, k, s, l[2], l[1], l[0])
	is(t, "Rank", k.Rank(l[1], 31), api.OK)
	waiting(t, k, s, l[1], l[2], l[0])
	does(t, k, give(s))
	runs(t, k, l[1])
	looks(t, k, "256 waits - 6 6 3 256 0 0 -1 0 0 0", "257 ready - 31 31 - 1 0 0", "258 waits - 7 7 3 256 0 0 -1 0 0 0", "259 ready - 1 1 - 1 0 0")
}

// P20.4, P20.11: who has a mutex for which others wait has at least their rank, whatever its own becomes.
func TestRankLent(t *testing.T) {
	k, l := starts(t, 9, 1)
	m := makes(t, k, api.KiLock, 0, 0)
	does(t, k, lock(m, 0))
	h := comes(t, k, 6)
	begins(t, k, lock(m, -1))
	looks(t, k, "256 ready - 1 6 - 1 0 0", "257 waits - 6 6 5 256 0 0 -1 0 0 0")
	is(t, "Rank", k.Rank(l[0], 3), api.OK)
	looks(t, k, "256 ready - 3 6 - 1 0 0", "257 waits - 6 6 5 256 0 0 -1 0 0 0")
	is(t, "Rank", k.Rank(l[0], 8), api.OK)
	ranked(t, k, 8, 6)
	does(t, k, api.Ask{What: api.WhRank, V: 0})
	looks(t, k, "256 ready - 0 6 - 2 0 0", "257 waits - 6 6 5 256 0 0 -1 0 0 0")
	is(t, "Rank", k.Rank(h, 4), api.OK)
	ranked(t, k, 4, 4)
	is(t, "Rank", k.Rank(h, 31), api.OK)
	ranked(t, k, 31, 31)
	does(t, k, unlock(m))
	ranked(t, k, 0, 31)
	runs(t, k, h)
}

// noHandles are such as nothing has: none at all, of places that there are not, of generations yet to come.
func noHandles() []uint32 {
	return []uint32{0, 1, 9, 255, 256 + 9, 256 + 16, 256 + 32, 256 + 255, 512 + 1, 768, 1 << 31, 1<<32 - 256, 1<<32 - 1}
}

// P20.2 to P20.4: each call tells what is wrong with a handle, ahead of all that is wrong besides.
func TestTaskHandles(t *testing.T) {
	k, l := starts(t, 1, 5, 5, 5)
	things := []uint32{}
	for range 5 {
		things = append(things, makes(t, k, api.KiLock, 0, 0))
	}
	is(t, "End", k.End(l[0]), api.OK)
	is(t, "End", k.End(l[2]), api.OK)
	if h := comes(t, k, 5); h != 512 {
		t.Fatalf("of a place that was given out again: %d", h)
	}
	calls := map[string]func(h uint32) api.Errno{
		"End": k.End, "Fault": k.Fault, "Hold": k.Hold, "Free": k.Free,
		"Rank":    func(h uint32) api.Errno { return k.Rank(h, 5) },
		"Rank 32": func(h uint32) api.Errno { return k.Rank(h, 32) },
	}
	for name, of := range calls {
		for _, h := range noHandles() {
			is(t, name, of(h), api.ErrHandle)
		}
		is(t, name+" of a thing", of(things[4]), api.ErrHandle)
		is(t, name+" of one that ended", of(l[0]), api.ErrStale)
		is(t, name+" of one that ended", of(l[2]), api.ErrStale)
	}
	looks(t, k, "512 ready - 5 5 - 0 0 0", "257 ready - 5 5 - 0 0 0")
}
