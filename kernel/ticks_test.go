package kernel

import (
	"math"
	"slices"
	"testing"

	"timekeeper/api"
)

// runsBy is which tasks run at ticks one behind the other, by their places in l.
func runsBy(t *testing.T, k *Kernel, l []uint32, want ...int) {
	t.Helper()
	var got []int
	for range want {
		got = append(got, slices.Index(l, k.Runs()))
		ticks(t, k, 1)
	}
	if !slices.Equal(got, want) {
		t.Fatalf("run %v, want %v", got, want)
	}
}

// P20.8, P20.9: the tick goes round beyond 4294967295, and tells itself.
func TestTickRound(t *testing.T) {
	k, e := New(api.Setup{Slice: 1, Now: 1<<32 - 2})
	is(t, "New", e, api.OK)
	h := comes(t, k, 1)
	begins(t, k, sleep(4))
	for _, want := range []uint32{1<<32 - 1, 0, 1, 2} {
		runs(t, k, 0)
		ticks(t, k, 1)
		if k.Now() != want {
			t.Errorf("Now() = %d, want %d", k.Now(), want)
		}
	}
	runs(t, k, h)
	does(t, k, api.Ask{What: api.WhNow})
	looks(t, k, "256 ready - 1 1 - 2 0 2")
}

// P20.8: who runs joins behind Slice ticks, and not ahead.
func TestSlice(t *testing.T) {
	for _, slice := range []int{1, 2, 3, 7, 999, 1000} {
		k, l := starts(t, slice, 5, 5, 4, 5)
		for i := range 7 {
			for range slice {
				runs(t, k, l[[]int{0, 1, 3}[i%3]])
				ticks(t, k, 1)
			}
		}
		isReady(t, k, 5, l[1], l[3], l[0])
		isReady(t, k, 4, l[2])
	}
}

// P20.8: the ticks of one that did not run go on where they were, as it does not join.
func TestSliceGoesOn(t *testing.T) {
	k, l := starts(t, 3, 5, 5)
	runsBy(t, k, l, 0, 0)
	l = append(l, comes(t, k, 6))
	runsBy(t, k, l, 2, 2, 2, 2)
	begins(t, k, sleep(2))
	runsBy(t, k, l, 0, 1)
	runsBy(t, k, l, 2, 2)
	begins(t, k, sleep(9))
	runsBy(t, k, l, 1, 1, 0, 0, 0, 1)
}

// P20.8: the ticks of one begin anew whenever it joins: when it lets others go first, is free again, waited, or its rank turned.
func TestSliceAnew(t *testing.T) {
	joins := map[string]func(t *testing.T, k *Kernel, h uint32){
		"yields": func(t *testing.T, k *Kernel, _ uint32) { does(t, k, api.Ask{What: api.WhYield}) },
		"is held, and free": func(t *testing.T, k *Kernel, h uint32) {
			is(t, "Hold", k.Hold(h), api.OK)
			is(t, "Free", k.Free(h), api.OK)
		},
		"sets its rank": func(t *testing.T, k *Kernel, _ uint32) {
			does(t, k, api.Ask{What: api.WhRank, V: 9})
			does(t, k, api.Ask{What: api.WhRank, V: 5})
		},
		"has its rank set": func(t *testing.T, k *Kernel, h uint32) {
			is(t, "Rank", k.Rank(h, 2), api.OK)
			is(t, "Rank", k.Rank(h, 5), api.OK)
		},
		"waits": func(t *testing.T, k *Kernel, _ uint32) {
			s := makes(t, k, api.KiCount, 0, 1)
			begins(t, k, take(s, -1))
			is(t, "Signal", k.Signal(api.Bind{H: s}), api.OK)
		},
		"is lent a rank": func(t *testing.T, k *Kernel, _ uint32) {
			m := makes(t, k, api.KiLock, 0, 0)
			does(t, k, lock(m, 0))
			h := comes(t, k, 8)
			begins(t, k, lock(m, -1))
			is(t, "End", k.End(h), api.OK)
		},
	}
	for name, join := range joins {
		t.Run(name, func(t *testing.T) {
			k, l := starts(t, 4, 5, 5)
			runsBy(t, k, l, 0, 0, 0)
			join(t, k, l[0])
			isReady(t, k, 5, l[1], l[0])
			runsBy(t, k, l, 1, 1, 1, 1, 0, 0, 0, 0, 1)
		})
	}
}

// P20.8: what lets a task stand where it is lets its ticks go on, too.
func TestSliceStays(t *testing.T) {
	k, l := starts(t, 4, 5, 5)
	runsBy(t, k, l, 0, 0)
	does(t, k, api.Ask{What: api.WhNow})
	does(t, k, api.Ask{What: api.WhRank, V: 5})
	does(t, k, sleep(0))
	is(t, "Rank", k.Rank(l[0], 5), api.OK)
	asks(t, k, take(9, -1), true, api.ErrHandle)
	does(t, k, lock(makes(t, k, api.KiLock, 0, 0), 0))
	is(t, "Hold", k.Hold(l[1]), api.OK)
	is(t, "Free", k.Free(l[1]), api.OK)
	comes(t, k, 5)
	runsBy(t, k, l, 0, 0, 1)
}

// P20.8: one that joins at a tick is ahead of those that wake at it.
func TestSliceAheadOfWaking(t *testing.T) {
	k, l := starts(t, 2, 5, 5, 5)
	begins(t, k, sleep(2))
	runsBy(t, k, l, 1, 1)
	isReady(t, k, 5, l[2], l[1], l[0])
}

// P20.8, P20.11: who sleeps is answered OK, who waits for a thing ErrTimeout, at the very tick; who waits for ever is not.
func TestTimeouts(t *testing.T) {
	for _, n := range []int64{1, 2, 3, 10} {
		k, l := starts(t, 9, 9, 8, 7, 6)
		s := makes(t, k, api.KiCount, 0, 1)
		begins(t, k, sleep(n))
		begins(t, k, take(s, n))
		begins(t, k, take(s, -n))
		for i := n; i > 0; i-- {
			if x := k.Tasks(); x[0].Left != i || x[1].Left != i || x[2].Left != -1 {
				t.Errorf("ahead of %d ticks: %+v", i, x)
			}
			runs(t, k, l[3])
			waiting(t, k, s, l[1], l[2])
			ticks(t, k, 1)
		}
		waiting(t, k, s, l[2])
		looks(t, k, "256 ready - 9 9 - 1 0 0", "257 ready - 8 8 - 1 8 0", "258 waits - 7 7 3 256 0 0 -1 0 0 0", "259 ready - 6 6 - 0 0 0")
		ticks(t, k, 5)
		looks(t, k, "256 ready - 9 9 - 1 0 0", "257 ready - 8 8 - 1 8 0", "258 waits - 7 7 3 256 0 0 -1 0 0 0", "259 ready - 6 6 - 0 0 0")
		is(t, "Signal", k.Signal(api.Bind{H: s}), api.OK)
		if x := taskOf(t, k, l[2]); x.State != api.StReady || x.Last != api.OK {
			t.Errorf("what was waited for: %+v", x)
		}
	}
}

// P20.8: of all kinds of things it is ErrTimeout.
func TestTimeoutsOfAll(t *testing.T) {
	for what := range refusals() {
		k, h, x := hopeless(t, what)
		begins(t, k, api.Ask{What: what, H: x, V: 1, Wait: 2})
		ticks(t, k, 1)
		waiting(t, k, x, h)
		ticks(t, k, 1)
		waiting(t, k, x)
		if y, want := taskOf(t, k, h), (api.Task{Handle: h, State: api.StReady, Base: 5, Rank: 5, Answers: 1, Last: api.ErrTimeout}); y != want {
			t.Errorf("What %d: %+v, want %+v", what, y, want)
		}
		runs(t, k, h)
	}
}

// P20.8: those of one tick come by when they began to wait, whatever their ranks were, and wherever they stand.
func TestTimeoutOrder(t *testing.T) {
	k, l := starts(t, 9, 5, 5, 5, 5, 5)
	s := makes(t, k, api.KiCount, 0, 1)
	does(t, k, api.Ask{What: api.WhYield})
	begins(t, k, take(s, 4))
	ticks(t, k, 1)
	begins(t, k, sleep(3))
	begins(t, k, take(s, 3))
	ticks(t, k, 1)
	is(t, "Rank", k.Rank(l[3], 6), api.OK)
	is(t, "Rank", k.Rank(l[3], 5), api.OK)
	runs(t, k, l[4])
	begins(t, k, sleep(2))
	begins(t, k, take(s, 2))
	runs(t, k, 0)
	ticks(t, k, 1)
	runs(t, k, 0)
	ticks(t, k, 1)
	isReady(t, k, 5, l[1], l[2], l[3], l[4], l[0])
}

// P20.8: who was answered ahead is not answered again at the tick, and may wait anew.
func TestTimeoutsEnd(t *testing.T) {
	k, l := starts(t, 9, 9, 1)
	s := makes(t, k, api.KiCount, 0, 9)
	begins(t, k, take(s, 3))
	ticks(t, k, 2)
	does(t, k, give(s))
	runs(t, k, l[0])
	begins(t, k, take(s, 3))
	ticks(t, k, 2)
	looks(t, k, "256 waits - 9 9 3 256 0 0 1 1 0 0", "257 ready - 1 1 - 1 0 0")
	ticks(t, k, 1)
	looks(t, k, "256 ready - 9 9 - 2 8 0", "257 ready - 1 1 - 1 0 0")
}

// P20.8: behind each one whose time is over ranks are told anew, so that those who lose what was lent join in that order.
func TestTimeoutRanks(t *testing.T) {
	k, l := starts(t, 9, 1, 1)
	a, b := makes(t, k, api.KiLock, 0, 0), makes(t, k, api.KiLock, 0, 0)
	does(t, k, lock(a, 0))
	does(t, k, api.Ask{What: api.WhYield})
	does(t, k, lock(b, 0))
	comes(t, k, 7)
	begins(t, k, lock(b, 2)) // of the second one, whose rank is lent and falls first
	comes(t, k, 8)
	begins(t, k, lock(a, 2))
	ranked(t, k, 8, 7, 7, 8)
	ticks(t, k, 2)
	ranked(t, k, 1, 1, 7, 8)
	isReady(t, k, 1, l[1], l[0])
}

// P20.8: an alarm that comes does what Signal of its thing does, in order, whatever that answers.
func TestAlarms(t *testing.T) {
	k, l := starts(t, 9, 5, 5, 1)
	s, f := makes(t, k, api.KiCount, 0, 2), makes(t, k, api.KiFlags, 1, 0)
	a, b, c := makes(t, k, api.KiAlarm, s, 5), makes(t, k, api.KiAlarm, f, 6), makes(t, k, api.KiAlarm, s, 0)
	begins(t, k, take(s, -1))
	begins(t, k, await(f, 4, 0, -1))
	does(t, k, api.Ask{What: api.WhStart, H: c, V: 3, M: 2})
	does(t, k, api.Ask{What: api.WhStart, H: b, V: 2})
	does(t, k, api.Ask{What: api.WhStart, H: a, V: 2, M: 1})
	ticks(t, k, 1)
	if x := k.Things(); x[0].Count != 0 || x[1].Count != 1 || x[2].Left != 1 || x[3].Left != 1 || x[4].Left != 2 {
		t.Errorf("behind a tick: %+v", x)
	}
	ticks(t, k, 1)
	isReady(t, k, 5, l[1], l[0])
	looks(t, k, "256 ready - 5 5 - 1 0 0", "257 ready - 5 5 - 1 0 4", "258 ready - 1 1 - 3 0 0")
	if x := k.Things(); x[0].Count != 0 || x[1].Count != 7 || x[2].Left != 1 || x[3].Left != 0 || x[4].Left != 1 {
		t.Errorf("behind two: %+v", x)
	}
	ticks(t, k, 1)
	if x := k.Things(); x[0].Count != 2 || x[2].Left != 1 || x[4].Left != 2 {
		t.Errorf("behind three: %+v", x)
	}
	ticks(t, k, 2)
	if x := k.Things(); x[0].Count != 2 || x[2].Left != 1 || x[4].Left != 2 {
		t.Errorf("full: %+v", x)
	}
	does(t, k, take(s, 0))
	is(t, "Drop", k.Drop(f), api.OK)
	does(t, k, api.Ask{What: api.WhStart, H: b, V: 1})
	ticks(t, k, 1)
	if x := k.Things(); x[0].Count != 2 || x[1].Left != 1 || x[2].Left != 0 || x[3].Left != 1 {
		t.Errorf("behind one for what is gone: %+v", x)
	}
}

// P20.8: alarms come behind those whose time is over, which get nothing of theirs.
func TestAlarmsBehindTimeouts(t *testing.T) {
	k, l := starts(t, 9, 5, 5, 1)
	s := makes(t, k, api.KiCount, 0, 2)
	a := makes(t, k, api.KiAlarm, s, 0)
	begins(t, k, take(s, 2))
	begins(t, k, take(s, 3))
	does(t, k, api.Ask{What: api.WhStart, H: a, V: 2})
	ticks(t, k, 2)
	isReady(t, k, 5, l[0], l[1])
	looks(t, k, "256 ready - 5 5 - 1 8 0", "257 ready - 5 5 - 1 0 0", "258 ready - 1 1 - 1 0 0")
	if x := thingOf(t, k, s); x.Count != 0 {
		t.Errorf("the second one has it: %+v", x)
	}
}

// P20.8: alarms of one tick come in order: what one gives is the first one's, what the next one gives the second one's.
func TestAlarmOrder(t *testing.T) {
	k, l := starts(t, 9, 5, 5, 1)
	f, g := makes(t, k, api.KiFlags, 0, 0), makes(t, k, api.KiFlags, 0, 0)
	a, b := makes(t, k, api.KiAlarm, f, 1), makes(t, k, api.KiAlarm, g, 1)
	begins(t, k, await(f, 1, 0, -1))
	begins(t, k, await(g, 1, 0, -1))
	does(t, k, api.Ask{What: api.WhStart, H: b, V: 2})
	does(t, k, api.Ask{What: api.WhStart, H: a, V: 2})
	ticks(t, k, 2)
	isReady(t, k, 5, l[1], l[0])
	runs(t, k, l[1])
}

// P20.8: behind each alarm ranks are told anew.
func TestAlarmRanks(t *testing.T) {
	k, l := starts(t, 9, 1)
	m, s := makes(t, k, api.KiLock, 0, 0), makes(t, k, api.KiCount, 0, 2)
	a := makes(t, k, api.KiAlarm, s, 0)
	does(t, k, lock(m, 0))
	does(t, k, api.Ask{What: api.WhStart, H: a, V: 2})
	begins(t, k, take(s, -1))
	h := comes(t, k, 6)
	begins(t, k, lock(m, 9))
	ranked(t, k, 6, 6)
	ticks(t, k, 2)
	runs(t, k, l[0])
	looks(t, k, "256 ready - 1 6 - 3 0 0", "257 waits - 6 6 5 256 0 0 7 0 0 0")
	does(t, k, unlock(m))
	runs(t, k, h)
}

// P20.9: who runs is the first one of the greatest rank of those that may.
func TestRuns(t *testing.T) {
	k, l := starts(t, 9)
	runs(t, k, 0)
	for i, rank := range []int{0, 3, 3, 31, 31, 7} {
		l = append(l, comes(t, k, rank))
		runs(t, k, l[[]int{0, 1, 1, 3, 3, 3}[i]])
	}
	is(t, "Hold", k.Hold(l[3]), api.OK)
	runs(t, k, l[4])
	begins(t, k, sleep(9))
	runs(t, k, l[5])
	is(t, "Fault", k.Fault(l[5]), api.OK)
	runs(t, k, l[1])
	is(t, "End", k.End(l[1]), api.OK)
	runs(t, k, l[2])
	is(t, "Rank", k.Rank(l[0], 3), api.OK)
	runs(t, k, l[2])
	is(t, "Rank", k.Rank(l[0], 4), api.OK)
	runs(t, k, l[0])
}

// P20.10: tasks by their places, with each field of what is seen.
func TestTasks(t *testing.T) {
	k, l := starts(t, 9, 9, 8, 7, 6)
	f := makes(t, k, api.KiFlags, 5, 0)
	does(t, k, await(f, 7, 0, 0))
	a := await(f, 8, 3, 77)
	begins(t, k, a)
	begins(t, k, sleep(4))
	is(t, "Hold", k.Hold(l[1]), api.OK)
	asks(t, k, api.Ask{What: api.WhRank, V: 99}, true, api.ErrRange)
	is(t, "Fault", k.Fault(l[2]), api.OK)
	is(t, "End", k.End(l[3]), api.OK)
	l[3] = comes(t, k, 31)
	ticks(t, k, 1)
	want := []api.Task{
		{Handle: 256, State: api.StWaits, Base: 9, Rank: 9, Waits: a, Left: 76, Answers: 1, Value: 5},
		{Handle: 257, State: api.StWaits, Held: true, Base: 8, Rank: 8, Waits: sleep(4), Left: 3},
		{Handle: 258, State: api.StFault, Base: 7, Rank: 7, Answers: 1, Last: api.ErrRange},
		{Handle: 512 + 3, State: api.StReady, Base: 31, Rank: 31},
	}
	if got := k.Tasks(); !slices.Equal(got, want) {
		t.Errorf("Tasks() = %+v, want %+v", got, want)
	}
}

// P20.10: things by their places, with each field of what is seen.
func TestThings(t *testing.T) {
	k, l := starts(t, 9, 5)
	for i, h := range oneOfEach(t, k) {
		if h != 256+uint32(i) {
			t.Fatalf("the handle %d", h)
		}
	}
	does(t, k, lock(257, 0))
	does(t, k, put(258, 9, 0))
	does(t, k, alloc(260, 0))
	does(t, k, api.Ask{What: api.WhStart, H: 261, V: 5})
	other := comes(t, k, 6)
	begins(t, k, lock(257, -1))
	last := comes(t, k, 7)
	begins(t, k, lock(257, -1))
	is(t, "Drop", k.Drop(256), api.OK)
	ticks(t, k, 1)
	want := map[uint32]api.Thing{
		257: {Make: api.Make{Kind: api.KiLock}, Owner: l[0], Waits: []uint32{last, other}},
		258: {Make: api.Make{Kind: api.KiRow, A: 1}, Row: []uint32{9}},
		259: {Make: api.Make{Kind: api.KiFlags, A: 1}, Count: 1},
		260: {Make: api.Make{Kind: api.KiPool, A: 1, B: 1}, Owners: []uint32{l[0]}},
		261: {Make: api.Make{Kind: api.KiAlarm, A: 256}, Left: 4},
	}
	for i, x := range k.Things() {
		y := want[uint32(257+i)]
		if x.Handle != uint32(257+i) || x.Make != y.Make || x.Count != y.Count || x.Owner != y.Owner || x.Left != y.Left ||
			!slices.Equal(x.Row, y.Row) || !slices.Equal(x.Owners, y.Owners) || !slices.Equal(x.Waits, y.Waits) {
			t.Errorf("it is %+v, want %+v", x, y)
		}
	}
	if h := makes(t, k, api.KiLock, 0, 0); h != 512 || k.Things()[0].Handle != 512 || len(k.Things()) != 6 {
		t.Errorf("at the first place: %d, %+v", h, k.Things())
	}
}

// P20.10: those that may run, of a rank; of what is no rank there are none.
func TestReady(t *testing.T) {
	k, l := starts(t, 9, 0, 31, 31, 0)
	isReady(t, k, 0, l[0], l[3])
	isReady(t, k, 31, l[1], l[2])
	for _, rank := range []int{math.MinInt, -1 << 32, -256, -32, -31, -1, 1, 30, 32, 33, 63, 255, 256, 1 << 32, 1<<32 + 31, math.MaxInt} {
		isReady(t, k, rank)
	}
}
