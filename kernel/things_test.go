package kernel

import (
	"fmt"
	"math"
	"reflect"
	"slices"
	"testing"

	"timekeeper/api"
)

// refuses is whether no thing is made of that.
func refuses(t *testing.T, k *Kernel, m api.Make, want api.Errno) {
	t.Helper()
	before := len(k.Things())
	if h, e := k.Thing(m); h != 0 || e != want || len(k.Things()) != before {
		t.Fatalf("Thing(%+v) = %d, error %d, want 0, error %d", m, h, e, want)
	}
}

// P20.5: each kind, at the bounds of what it may be, and as it is seen then.
func TestThing(t *testing.T) {
	const most = 1 << 30
	k, _ := starts(t, 1)
	for i, m := range []api.Make{
		{Kind: api.KiCount, A: 0, B: 1}, {Kind: api.KiCount, A: 1, B: 1}, {Kind: api.KiCount, A: most, B: most}, {Kind: api.KiLock},
		{Kind: api.KiRow, A: 1}, {Kind: api.KiRow, A: 64}, {Kind: api.KiFlags}, {Kind: api.KiFlags, A: math.MaxUint32},
		{Kind: api.KiPool, A: 1, B: 1}, {Kind: api.KiPool, A: 64, B: 256}, {Kind: api.KiAlarm, A: 256, B: 9}, {Kind: api.KiAlarm, A: 262},
	} {
		h := makes(t, k, m.Kind, m.A, m.B)
		if h != 256+uint32(i) {
			t.Fatalf("Thing(%+v) = %d", m, h)
		}
		want := api.Thing{Handle: h, Make: m}
		switch m.Kind {
		case api.KiCount, api.KiFlags:
			want.Count = m.A
		case api.KiPool:
			want.Count, want.Owners = m.A, make([]uint32, m.A)
		}
		got := thingOf(t, k, h)
		got.Row, got.Owners, got.Waits = noneIsNil(got.Row), noneIsNil(got.Owners), noneIsNil(got.Waits)
		if !reflect.DeepEqual(got, want) {
			t.Errorf("it is %+v, want %+v", got, want)
		}
	}
	for _, m := range []api.Make{
		{}, {Kind: 7, A: 1, B: 1}, {Kind: 255}, {Kind: api.KiCount}, {Kind: api.KiCount, A: 2, B: 1}, {Kind: api.KiCount, B: most + 1},
		{Kind: api.KiLock, A: 1}, {Kind: api.KiLock, B: 1}, {Kind: api.KiRow}, {Kind: api.KiRow, A: 65}, {Kind: api.KiRow, A: 1, B: 1},
		{Kind: api.KiFlags, B: 1}, {Kind: api.KiPool, A: 1}, {Kind: api.KiPool, B: 1}, {Kind: api.KiPool, A: 65, B: 1}, {Kind: api.KiPool, A: 1, B: 257},
		{Kind: api.KiAlarm}, {Kind: api.KiAlarm, B: 1},
	} {
		refuses(t, k, m, api.ErrArg)
	}
}

// P20.5: an alarm is for a semaphore or for flags that are there.
func TestThingAlarm(t *testing.T) {
	k, l := starts(t, 1, 1)
	s, f := makes(t, k, api.KiCount, 0, 1), makes(t, k, api.KiFlags, 0, 0)
	others := []uint32{makes(t, k, api.KiLock, 0, 0), makes(t, k, api.KiRow, 1, 0), makes(t, k, api.KiPool, 1, 1), makes(t, k, api.KiAlarm, s, 0)}
	makes(t, k, api.KiAlarm, f, math.MaxUint32)
	for _, h := range others {
		refuses(t, k, api.Make{Kind: api.KiAlarm, A: h, B: 1}, api.ErrArg)
	}
	for _, h := range noHandles() {
		if h != 0 {
			refuses(t, k, api.Make{Kind: api.KiAlarm, A: h}, api.ErrHandle)
		}
	}
	is(t, "End", k.End(l[0]), api.OK)
	l[0] = comes(t, k, 1)
	refuses(t, k, api.Make{Kind: api.KiAlarm, A: l[0]}, api.ErrHandle)
	is(t, "Drop", k.Drop(s), api.OK)
	refuses(t, k, api.Make{Kind: api.KiAlarm, A: s}, api.ErrStale)
	makes(t, k, api.KiFlags, 0, 0)
	refuses(t, k, api.Make{Kind: api.KiAlarm, A: s}, api.ErrStale)
}

// P20.5: there are MaxThings at most, which is told last.
func TestThingMany(t *testing.T) {
	k, _ := starts(t, 1)
	for range 31 {
		makes(t, k, api.KiLock, 0, 0)
	}
	s := makes(t, k, api.KiCount, 0, 1)
	refuses(t, k, api.Make{Kind: api.KiLock}, api.ErrMany)
	refuses(t, k, api.Make{Kind: api.KiAlarm, A: s}, api.ErrMany)
	refuses(t, k, api.Make{Kind: api.KiLock, A: 1}, api.ErrArg)
	refuses(t, k, api.Make{Kind: api.KiAlarm}, api.ErrArg)
	refuses(t, k, api.Make{Kind: api.KiAlarm, A: 256}, api.ErrArg)
	refuses(t, k, api.Make{Kind: api.KiAlarm, A: 512}, api.ErrHandle)
	is(t, "Drop", k.Drop(256+9), api.OK)
	refuses(t, k, api.Make{Kind: api.KiAlarm, A: 256 + 9}, api.ErrStale)
	if h := makes(t, k, api.KiAlarm, s, 0); h != 512+9 {
		t.Errorf("of the place 9: %d", h)
	}
	refuses(t, k, api.Make{Kind: api.KiLock}, api.ErrMany)
}

// P20.5: of each kind, with none, one and several that wait for it, all are answered ErrGone, in order.
func TestDrop(t *testing.T) {
	makings := []api.Make{{Kind: api.KiCount, B: 1}, {Kind: api.KiLock}, {Kind: api.KiRow, A: 1}, {Kind: api.KiRow, A: 1}, {Kind: api.KiFlags}}
	first := []api.What{api.WhNow, api.WhLock, api.WhNow, api.WhPut, api.WhNow}
	waited := []api.What{api.WhTake, api.WhLock, api.WhGet, api.WhPush, api.WhAwait}
	for i, m := range makings {
		for many := range 4 {
			k, l := starts(t, 9, 5)
			h := makes(t, k, m.Kind, m.A, m.B)
			does(t, k, api.Ask{What: first[i], H: h})
			var those []uint32
			for j := range many {
				those = append(those, comes(t, k, 6+j))
				begins(t, k, api.Ask{What: waited[i], H: h, V: 1, Wait: int64(3*j - 1)})
			}
			is(t, "Drop", k.Drop(h), api.OK)
			is(t, "Drop again", k.Drop(h), api.ErrStale)
			if len(k.Things()) != 0 {
				t.Fatalf("it is there: %+v", k.Things())
			}
			for j, who := range those {
				if x, want := taskOf(t, k, who), (api.Task{Handle: who, State: api.StReady, Base: 6 + j, Rank: 6 + j, Answers: 1, Last: api.ErrGone}); x != want {
					t.Errorf("%+v: %+v, want %+v", m, x, want)
				}
			}
			if x := taskOf(t, k, l[0]); x.Rank != 5 || x.Answers != 1 {
				t.Errorf("%+v: what was lent: %+v", m, x)
			}
			ticks(t, k, 9)
			for _, who := range those {
				if x := taskOf(t, k, who); x.Answers != 1 {
					t.Errorf("%+v: answered again: %+v", m, x)
				}
			}
		}
	}
}

// P20.5: those of one rank join in the order in which they waited, those that were held do not.
func TestDropOrder(t *testing.T) {
	k, l := starts(t, 9, 5, 5, 5, 5, 5)
	s := makes(t, k, api.KiCount, 0, 1)
	does(t, k, api.Ask{What: api.WhYield})
	for range 4 {
		begins(t, k, take(s, -1))
	}
	is(t, "Hold", k.Hold(l[3]), api.OK)
	waiting(t, k, s, l[1], l[2], l[3], l[4])
	is(t, "Drop", k.Drop(s), api.OK)
	isReady(t, k, 5, l[0], l[1], l[2], l[4])
	if x := taskOf(t, k, l[3]); x.State != api.StReady || !x.Held || x.Last != api.ErrGone {
		t.Errorf("the one that is held: %+v", x)
	}
}

// P20.5: a pool of which a block is out is in use, by whomever, and is not when all are back.
func TestDropPool(t *testing.T) {
	k, l := starts(t, 9, 5)
	p := makes(t, k, api.KiPool, 2, 1)
	does(t, k, alloc(p, 0))
	does(t, k, alloc(p, 0))
	other := comes(t, k, 9)
	begins(t, k, alloc(p, 9))
	is(t, "Drop", k.Drop(p), api.ErrBusy)
	waiting(t, k, p, other)
	does(t, k, api.Ask{What: api.WhFree, H: p, V: 0})
	is(t, "Drop, of the next one's", k.Drop(p), api.ErrBusy)
	is(t, "End", k.End(l[0]), api.OK)
	is(t, "Drop, of the first block alone", k.Drop(p), api.ErrBusy)
	does(t, k, api.Ask{What: api.WhFree, H: p, V: 0})
	is(t, "Drop", k.Drop(p), api.OK)
	does(t, k, api.Ask{What: api.WhNow})
	p = makes(t, k, api.KiPool, 2, 1)
	does(t, k, alloc(p, 0))
	does(t, k, alloc(p, 0))
	does(t, k, api.Ask{What: api.WhFree, H: p, V: 0})
	is(t, "Drop, of the second block alone", k.Drop(p), api.ErrBusy)
	is(t, "Fault", k.Fault(other), api.OK)
	is(t, "Drop, of one at fault", k.Drop(p), api.OK)
}

// P20.5: a mutex that somebody has goes, and with it what was lent; another one at its place is nobody's.
func TestDropLock(t *testing.T) {
	k, l := starts(t, 9, 1)
	m := makes(t, k, api.KiLock, 0, 0)
	does(t, k, lock(m, 0))
	h := comes(t, k, 9)
	begins(t, k, lock(m, -1))
	ranked(t, k, 9, 9)
	is(t, "Drop", k.Drop(m), api.OK)
	looks(t, k, "256 ready - 1 1 - 1 0 0", "257 ready - 9 9 - 1 9 0")
	runs(t, k, h)
	m = makes(t, k, api.KiLock, 0, 0)
	if x := thingOf(t, k, m); m != 512 || x.Owner != 0 {
		t.Errorf("the next one: %+v", x)
	}
	does(t, k, lock(m, 0))
	is(t, "End", k.End(l[0]), api.OK)
	if x := thingOf(t, k, m); x.Owner != h {
		t.Errorf("it is %+v", x)
	}
}

// P20.5: an alarm that runs does not come any more, nor does one behind it at its place.
func TestDropAlarm(t *testing.T) {
	k, l := starts(t, 9, 1)
	s := makes(t, k, api.KiCount, 0, 9)
	a := makes(t, k, api.KiAlarm, s, 0)
	does(t, k, api.Ask{What: api.WhStart, H: a, V: 1, M: 1})
	ticks(t, k, 1)
	is(t, "Drop", k.Drop(a), api.OK)
	b := makes(t, k, api.KiAlarm, s, 0)
	if x := thingOf(t, k, b); b != 512+1 || x.Left != 0 {
		t.Errorf("the next one: %+v", x)
	}
	asks(t, k, api.Ask{What: api.WhStop, H: b}, true, api.ErrState)
	asks(t, k, api.Ask{What: api.WhStop, H: a}, true, api.ErrStale)
	ticks(t, k, 3)
	if x := thingOf(t, k, s); x.Count != 1 {
		t.Errorf("it came on: %+v", x)
	}
	is(t, "Drop, of one that does not run", k.Drop(b), api.OK)
	runs(t, k, l[0])
}

// P20.5: what an alarm or a task still names is dropped as all is: the handle names nothing any more.
func TestDropNamed(t *testing.T) {
	k, _ := starts(t, 9, 1)
	s := makes(t, k, api.KiCount, 0, 9)
	a := makes(t, k, api.KiAlarm, s, 0)
	does(t, k, api.Ask{What: api.WhStart, H: a, V: 2, M: 1})
	is(t, "Drop", k.Drop(s), api.OK)
	next := makes(t, k, api.KiCount, 0, 9)
	ticks(t, k, 5)
	if x := thingOf(t, k, next); next != 512 || x.Count != 0 {
		t.Errorf("the next one at its place: %+v", x)
	}
	if x := thingOf(t, k, a); x.Left != 1 {
		t.Errorf("the alarm runs on: %+v", x)
	}
	asks(t, k, take(s, -1), true, api.ErrStale)
	asks(t, k, give(s), true, api.ErrStale)
	does(t, k, api.Ask{What: api.WhStop, H: a})
	does(t, k, api.Ask{What: api.WhStart, H: a, V: 2, M: 1})
}

// P20.5 to P20.7: each call tells what is wrong with a thing's handle.
func TestThingHandles(t *testing.T) {
	k, l := starts(t, 1, 5, 5, 5)
	for _, kind := range []api.Kind{api.KiLock, api.KiFlags} {
		makes(t, k, kind, 0, 0)
	}
	is(t, "End", k.End(l[2]), api.OK)
	l[2] = comes(t, k, 5)
	is(t, "Drop", k.Drop(256), api.OK)
	is(t, "Drop", k.Drop(257), api.OK)
	if h := makes(t, k, api.KiLock, 0, 0); h != 512 {
		t.Fatalf("of a place that was given out again: %d", h)
	}
	calls := map[string]func(h uint32) api.Errno{
		"Drop":   k.Drop,
		"Signal": func(h uint32) api.Errno { return k.Signal(api.Bind{H: h}) },
	}
	for what := api.WhTake; what <= api.WhStop; what++ {
		calls[fmt.Sprint("Ask ", what)] = func(h uint32) api.Errno {
			answered, e := k.Ask(api.Ask{What: what, H: h, V: 1 << 31, M: 4, Wait: 1 << 40})
			if !answered {
				t.Errorf("Ask(%d) waits", what)
			}
			return e
		}
	}
	for name, of := range calls {
		for _, h := range noHandles() {
			is(t, name, of(h), api.ErrHandle)
		}
		is(t, name+" of a task", of(l[2]), api.ErrHandle)
		is(t, name+" of one that was dropped", of(256), api.ErrStale)
		is(t, name+" of one that was dropped", of(257), api.ErrStale)
	}
}

// P20.7: a semaphore is given one, flags are raised; all others are none that it may be.
func TestSignal(t *testing.T) {
	k, _ := starts(t, 9, 5)
	s, f := makes(t, k, api.KiCount, 0, 2), makes(t, k, api.KiFlags, 1, 0)
	others := []uint32{makes(t, k, api.KiLock, 0, 0), makes(t, k, api.KiRow, 1, 0), makes(t, k, api.KiPool, 1, 1), makes(t, k, api.KiAlarm, s, 0)}
	for _, h := range others {
		is(t, "Signal", k.Signal(api.Bind{H: h, V: 1}), api.ErrArg)
	}
	for i, want := range []api.Errno{api.OK, api.OK, api.ErrFull, api.ErrFull} {
		is(t, "Signal", k.Signal(api.Bind{H: s, V: 77}), want)
		if x := thingOf(t, k, s); x.Count != uint32(min(i+1, 2)) {
			t.Errorf("given %d: %+v", i+1, x)
		}
	}
	is(t, "Signal", k.Signal(api.Bind{H: f, V: 1<<31 + 4}), api.OK)
	is(t, "Signal", k.Signal(api.Bind{H: f}), api.OK)
	if x := thingOf(t, k, f); x.Count != 1<<31+5 {
		t.Errorf("raised: %+v", x)
	}
	if x := thingOf(t, k, others[0]); x.Owner != 0 {
		t.Errorf("a mutex: %+v", x)
	}
	looks(t, k, "256 ready - 5 5 - 0 0 0")
}

// P20.7: those that wait are served, without a task that runs, too.
func TestSignalServes(t *testing.T) {
	k, l := starts(t, 9, 5, 6, 4)
	s, f := makes(t, k, api.KiCount, 0, 1), makes(t, k, api.KiFlags, 0, 0)
	begins(t, k, take(s, -1))
	begins(t, k, take(s, 5))
	begins(t, k, await(f, 6, 0, -1))
	runs(t, k, 0)
	is(t, "Signal", k.Signal(api.Bind{H: s}), api.OK)
	looks(t, k, "256 waits - 5 5 3 256 0 0 5 0 0 0", "257 ready - 6 6 - 1 0 0", "258 waits - 4 4 11 257 6 0 -1 0 0 0")
	is(t, "Signal", k.Signal(api.Bind{H: s}), api.OK)
	is(t, "Signal", k.Signal(api.Bind{H: s}), api.OK)
	is(t, "Signal", k.Signal(api.Bind{H: s}), api.ErrFull)
	is(t, "Signal", k.Signal(api.Bind{H: f, V: 9}), api.OK)
	is(t, "Signal", k.Signal(api.Bind{H: f, V: 4}), api.OK)
	looks(t, k, "256 ready - 5 5 - 1 0 0", "257 ready - 6 6 - 1 0 0", "258 ready - 4 4 - 1 0 4")
	if x := k.Things(); x[0].Count != 1 || x[1].Count != 13 {
		t.Errorf("things: %+v", x)
	}
	runs(t, k, l[1])
}

// P20.6, P20.7: flags are served to those that wait for some and for all, in order; what goes is not there for those behind.
func TestServeFlags(t *testing.T) {
	k, l := starts(t, 9, 9, 8, 7, 6, 5, 4)
	f := makes(t, k, api.KiFlags, 0, 0)
	begins(t, k, await(f, 7, 1, -1))  // all of them
	begins(t, k, await(f, 6, 0, -1))  // any
	begins(t, k, await(f, 2, 2, -1))  // any, and they go
	begins(t, k, await(f, 2, 0, -1))  // any: gone by then
	begins(t, k, await(f, 12, 3, -1)) // all, and they go
	waiting(t, k, f, l[:5]...)
	does(t, k, api.Ask{What: api.WhRaise, H: f, V: 2})
	looks(t, k, "256 waits - 9 9 11 256 7 1 -1 0 0 0", "257 ready - 8 8 - 1 0 2", "258 ready - 7 7 - 1 0 2", "259 waits - 6 6 11 256 2 0 -1 0 0 0",
		"260 waits - 5 5 11 256 12 3 -1 0 0 0", "261 ready - 4 4 - 1 0 2")
	if x := thingOf(t, k, f); x.Count != 0 {
		t.Errorf("what goes: %+v", x)
	}
	is(t, "Signal", k.Signal(api.Bind{H: f, V: 8}), api.OK)
	is(t, "Signal", k.Signal(api.Bind{H: f, V: 4}), api.OK)
	waiting(t, k, f, l[0], l[3])
	if x, y := taskOf(t, k, l[4]), thingOf(t, k, f); x.Value != 12 || y.Count != 0 {
		t.Errorf("all, and they go: %+v, %+v", x, y)
	}
	is(t, "Signal", k.Signal(api.Bind{H: f, V: 7}), api.OK)
	if x, y := k.Tasks(), thingOf(t, k, f); x[0].Value != 7 || x[3].Value != 2 || y.Count != 7 {
		t.Errorf("all stay: %+v, %+v", x, y)
	}
}

// P20.6: one for whom it is not enough does not stand in the way of those behind, and is not passed over once it is.
func TestServeBehind(t *testing.T) {
	k, l := starts(t, 9, 9, 8, 1)
	f := makes(t, k, api.KiFlags, 0, 0)
	begins(t, k, await(f, 3, 1, -1))
	begins(t, k, await(f, 3, 2, -1))
	does(t, k, api.Ask{What: api.WhRaise, H: f, V: 1})
	waiting(t, k, f, l[0])
	begins(t, k, await(f, 3, 2, -1))
	waiting(t, k, f, l[0], l[1])
	does(t, k, api.Ask{What: api.WhRaise, H: f, V: 3})
	waiting(t, k, f)
	if x := k.Tasks(); x[0].Value != 3 || x[1].Value != 3 || x[1].Answers != 2 {
		t.Errorf("both: %+v", x)
	}
	if x := thingOf(t, k, f); x.Count != 0 {
		t.Errorf("they go with the second one: %+v", x)
	}
}

// P20.6: a message goes to the first one that waits for it; where there is room, the first one that waits to put is served.
func TestServeRow(t *testing.T) {
	k, l := starts(t, 9, 9, 8, 7, 1)
	q := makes(t, k, api.KiRow, 2, 0)
	for _, h := range l[:3] {
		begins(t, k, get(q, -1))
		is(t, "Hold", k.Hold(h), api.OK)
	}
	does(t, k, put(q, 11, 0))
	does(t, k, api.Ask{What: api.WhPush, H: q, V: 12})
	waiting(t, k, q, l[2])
	does(t, k, put(q, 13, 0))
	does(t, k, put(q, 14, 0))
	does(t, k, put(q, 15, 0))
	looks(t, k, "256 ready held 9 9 - 1 0 11", "257 ready held 8 8 - 1 0 12", "258 ready held 7 7 - 1 0 13", "259 ready - 1 1 - 5 0 0")
	x := comes(t, k, 5)
	begins(t, k, put(q, 21, -1))
	y := comes(t, k, 6)
	begins(t, k, api.Ask{What: api.WhPush, H: q, V: 22, Wait: 9})
	waiting(t, k, q, y, x)
	does(t, k, get(q, 0))
	if z := thingOf(t, k, q); !slices.Equal(z.Row, []uint32{22, 15}) {
		t.Errorf("behind the first one: %+v", z)
	}
	waiting(t, k, q, x)
	runs(t, k, y)
	does(t, k, get(q, 0))
	if z := thingOf(t, k, q); !slices.Equal(z.Row, []uint32{15, 21}) {
		t.Errorf("behind the second one: %+v", z)
	}
	looks(t, k, "256 ready held 9 9 - 1 0 11", "257 ready held 8 8 - 1 0 12", "258 ready held 7 7 - 1 0 13", "259 ready - 1 1 - 6 0 14",
		"260 ready - 5 5 - 1 0 0", "261 ready - 6 6 - 2 0 22")
}
