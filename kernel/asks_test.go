package kernel

import (
	"fmt"
	"math"
	"slices"
	"testing"

	"timekeeper/api"
)

// P20.6: where no task runs nothing is asked, whatever it is.
func TestAskNobody(t *testing.T) {
	none, _ := starts(t, 1)
	held, l := starts(t, 1, 5)
	is(t, "Hold", held.Hold(l[0]), api.OK)
	waits, _ := starts(t, 1, 5)
	begins(t, waits, sleep(9))
	atFault, l := starts(t, 1, 5)
	is(t, "Fault", atFault.Fault(l[0]), api.OK)
	for _, k := range []*Kernel{none, held, waits, atFault} {
		for what := range 256 {
			asks(t, k, api.Ask{What: api.What(what), Wait: 1}, false, api.ErrState)
		}
	}
}

// P20.6: What is WhYield to WhEnd; else nobody is answered.
func TestAskWhat(t *testing.T) {
	k, _ := starts(t, 1, 5)
	for what := range 256 {
		if what == 0 || what > 20 {
			asks(t, k, api.Ask{What: api.What(what), Wait: 1}, false, api.ErrArg)
		}
	}
	looks(t, k, "256 ready - 5 5 - 0 0 0")
	for what := api.WhYield; what <= api.WhEnd; what++ {
		k, _ := starts(t, 1, 5)
		want := map[api.What]api.Errno{api.WhYield: api.OK, api.WhSleep: api.OK, api.WhRank: api.OK, api.WhNow: api.OK, api.WhEnd: api.OK}
		e, ok := want[what]
		if !ok {
			e = api.ErrHandle
		}
		asks(t, k, api.Ask{What: what}, true, e)
		if x := k.Tasks(); what < api.WhEnd && (x[0].Answers != 1 || x[0].Last != e) || what == api.WhEnd && len(x) > 0 {
			t.Errorf("What %d: %+v", what, x)
		}
	}
}

// P20.6: WhYield lets the others of its rank go first.
func TestYield(t *testing.T) {
	k, l := starts(t, 9, 5, 5, 5, 4)
	for i := range 7 {
		runs(t, k, l[i%3])
		does(t, k, api.Ask{What: api.WhYield, H: 9, V: 99, M: 99, Wait: -1})
	}
	isReady(t, k, 5, l[1], l[2], l[0])
	looks(t, k, "256 ready - 5 5 - 3 0 0", "257 ready - 5 5 - 2 0 0", "258 ready - 5 5 - 2 0 0", "259 ready - 4 4 - 0 0 0")
	alone, m := starts(t, 9, 0)
	does(t, alone, api.Ask{What: api.WhYield})
	runs(t, alone, m[0])
}

// P20.6: WhSleep at the bounds of Wait.
func TestSleep(t *testing.T) {
	k, l := starts(t, 9, 5, 4)
	for i, wait := range []int64{math.MinInt64, -1 << 32, -1<<32 + 1, -2, -1, 1<<30 + 1, 1 << 32, 1<<32 + 1, math.MaxInt64} {
		asks(t, k, sleep(wait), true, api.ErrRange)
		if x := taskOf(t, k, l[0]); x.Answers != i+1 || x.Last != api.ErrRange {
			t.Errorf("Wait %d: %+v", wait, x)
		}
	}
	does(t, k, sleep(0))
	runs(t, k, l[0])
	begins(t, k, api.Ask{What: api.WhSleep, H: 99, V: 5, M: 77, Wait: 1 << 30})
	begins(t, k, sleep(1))
	want := []api.Task{
		{Handle: l[0], State: api.StWaits, Base: 5, Rank: 5, Waits: api.Ask{What: api.WhSleep, H: 99, V: 5, M: 77, Wait: 1 << 30}, Left: 1 << 30, Answers: 10},
		{Handle: l[1], State: api.StWaits, Base: 4, Rank: 4, Waits: sleep(1), Left: 1},
	}
	if x := k.Tasks(); !slices.Equal(x, want) {
		t.Errorf("they sleep: %+v", x)
	}
	ticks(t, k, 1)
	looks(t, k, "256 waits - 5 5 2 99 5 77 1073741823 10 0 0", "257 ready - 4 4 - 1 0 0")
}

// P20.6: WhRank at the bounds of V; a base that does not turn the rank lets it stand where it is.
func TestOwnRank(t *testing.T) {
	k, l := starts(t, 9, 5, 5, 31)
	does(t, k, api.Ask{What: api.WhRank, V: 5, H: 99, Wait: 1 << 40})
	isReady(t, k, 5, l...)
	does(t, k, api.Ask{What: api.WhRank, V: 5})
	isReady(t, k, 5, l...)
	for _, v := range []uint32{32, 33, 255, 256, 1 << 31, 1<<32 - 1} {
		asks(t, k, api.Ask{What: api.WhRank, V: v}, true, api.ErrRange)
	}
	looks(t, k, "256 ready - 5 5 - 7 4 0", "257 ready - 5 5 - 0 0 0", "258 ready - 5 5 - 1 0 0")
	does(t, k, api.Ask{What: api.WhRank, V: 31})
	does(t, k, api.Ask{What: api.WhRank, V: 30})
	does(t, k, api.Ask{What: api.WhRank, V: 0})
	looks(t, k, "256 ready - 0 0 - 10 0 0", "257 ready - 5 5 - 0 0 0", "258 ready - 5 5 - 1 0 0")
	runs(t, k, l[1])
}

// P20.6: what WhNow, and those that tell a number, are answered; beside an error it is 0.
func TestNumbers(t *testing.T) {
	k, e := New(api.Setup{Slice: 9, Now: 1<<32 - 2})
	is(t, "New", e, api.OK)
	h := comes(t, k, 5)
	q, f, p := makes(t, k, api.KiRow, 3, 0), makes(t, k, api.KiFlags, 9, 0), makes(t, k, api.KiPool, 2, 1)
	answers := 0
	tells := func(a api.Ask, e api.Errno, number uint32) {
		t.Helper()
		asks(t, k, a, true, e)
		answers++
		if x := taskOf(t, k, h); x.Answers != answers || x.Last != e || x.Value != number {
			t.Fatalf("behind %+v: %+v, want number %d", a, x, number)
		}
	}
	tells(api.Ask{What: api.WhNow, H: 5, Wait: -4}, api.OK, 1<<32-2)
	tells(sleep(-1), api.ErrRange, 0)
	ticks(t, k, 3)
	tells(api.Ask{What: api.WhNow}, api.OK, 1)
	tells(sleep(0), api.OK, 0)
	tells(put(q, 71, 0), api.OK, 0)
	tells(api.Ask{What: api.WhPush, H: q, V: 70}, api.OK, 0)
	tells(api.Ask{What: api.WhPeek, H: q}, api.OK, 70)
	tells(get(q, 0), api.OK, 70)
	tells(get(q, 0), api.OK, 71)
	tells(get(q, 0), api.ErrEmpty, 0)
	tells(api.Ask{What: api.WhPeek, H: q, Wait: -1}, api.ErrEmpty, 0)
	tells(api.Ask{What: api.WhRaise, H: f, V: 4}, api.OK, 13)
	tells(api.Ask{What: api.WhLower, H: f, V: 8}, api.OK, 5)
	tells(await(f, 6, 0, 0), api.OK, 4)
	tells(await(f, 5, 1, 0), api.OK, 5)
	tells(await(f, 6, 2, 0), api.OK, 4)
	tells(await(f, 4, 3, 0), api.ErrEmpty, 0)
	tells(alloc(p, 0), api.OK, 0)
	tells(alloc(p, 0), api.OK, 1)
	tells(alloc(p, 0), api.ErrEmpty, 0)
	tells(api.Ask{What: api.WhFree, H: p, V: 1}, api.OK, 0)
	tells(alloc(p, -1), api.OK, 1)
	tells(api.Ask{What: api.WhRank, V: 7}, api.OK, 0)
	tells(alloc(p, 1<<31), api.ErrRange, 0)
}

// P20.6: WhEnd is as End; who asks it is not answered, as it is no more.
func TestOwnEnd(t *testing.T) {
	k, l := starts(t, 9, 5)
	m := makes(t, k, api.KiLock, 0, 0)
	does(t, k, lock(m, 0))
	h := comes(t, k, 7)
	begins(t, k, lock(m, -1))
	does(t, k, api.Ask{What: api.WhEnd, H: 99, V: 7, Wait: -1})
	looks(t, k, "257 ready - 7 7 - 1 0 0")
	is(t, "End", k.End(l[0]), api.ErrStale)
	if x := thingOf(t, k, m); x.Owner != h {
		t.Errorf("the mutex: %+v", x)
	}
	does(t, k, api.Ask{What: api.WhEnd})
	looks(t, k)
	asks(t, k, api.Ask{What: api.WhEnd}, false, api.ErrState)
}

// oneOfEach kind of thing, by kinds, from KiCount on.
func oneOfEach(t *testing.T, k *Kernel) []uint32 {
	t.Helper()
	s := makes(t, k, api.KiCount, 1, 1)
	return []uint32{s, makes(t, k, api.KiLock, 0, 0), makes(t, k, api.KiRow, 1, 0), makes(t, k, api.KiFlags, 1, 0), makes(t, k, api.KiPool, 1, 1), makes(t, k, api.KiAlarm, s, 0)}
}

// kinds of things, by what is asked of them.
func kinds() map[api.What]api.Kind {
	return map[api.What]api.Kind{
		api.WhTake: api.KiCount, api.WhGive: api.KiCount, api.WhLock: api.KiLock, api.WhUnlock: api.KiLock,
		api.WhPut: api.KiRow, api.WhPush: api.KiRow, api.WhGet: api.KiRow, api.WhPeek: api.KiRow,
		api.WhAwait: api.KiFlags, api.WhRaise: api.KiFlags, api.WhLower: api.KiFlags,
		api.WhAlloc: api.KiPool, api.WhFree: api.KiPool, api.WhStart: api.KiAlarm, api.WhStop: api.KiAlarm,
	}
}

// P20.6: each that is asked of things, of each kind: what does not fit is ErrArg, ahead of a Wait that may not be, and changes nothing.
func TestFits(t *testing.T) {
	for what, kind := range kinds() {
		k, l := starts(t, 9, 5)
		for i, h := range oneOfEach(t, k) {
			for _, wait := range []int64{-1, 0, 1, 1<<30 + 1} {
				if api.Kind(i+1) == kind {
					continue
				}
				before := fmt.Sprint(k.Things())
				asks(t, k, api.Ask{What: what, H: h, V: 1, Wait: wait}, true, api.ErrArg)
				if behind := fmt.Sprint(k.Things()); behind != before {
					t.Errorf("What %d: %s, ahead %s", what, behind, before)
				}
			}
		}
		if x := taskOf(t, k, l[0]); x.Answers != 20 || x.Last != api.ErrArg || x.State != api.StReady {
			t.Errorf("What %d: %+v", what, x)
		}
	}
}

// P20.6: each that is asked of things, of the kind that it is for, the first time.
func TestFitsRight(t *testing.T) {
	want := map[api.What]api.Errno{
		api.WhGive: api.ErrFull, api.WhUnlock: api.ErrOwner, api.WhGet: api.ErrEmpty, api.WhPeek: api.ErrEmpty, api.WhFree: api.ErrArg, api.WhStop: api.ErrState,
	}
	for what, kind := range kinds() {
		for _, wait := range []int64{0, 1 << 30} {
			k, _ := starts(t, 9, 5)
			h := oneOfEach(t, k)[kind-1]
			if what == api.WhGet && wait > 0 {
				begins(t, k, api.Ask{What: what, H: h, V: 1, Wait: wait})
				continue
			}
			asks(t, k, api.Ask{What: what, H: h, V: 1, Wait: wait}, true, want[what])
		}
	}
}

// P20.6: M of WhAwait is 0 to 3; above, it is ErrArg, ahead of a Wait that may not be. Of others it is nothing.
func TestAwaitModes(t *testing.T) {
	for m := range uint32(4) {
		k, l := starts(t, 9, 5)
		f := makes(t, k, api.KiFlags, 6, 0)
		does(t, k, await(f, 4, m, 0))
		if x, y := taskOf(t, k, l[0]), thingOf(t, k, f); x.Value != 4 || y.Count != 6-4*(m/2) {
			t.Errorf("M %d: %+v, %+v", m, x, y)
		}
		behind := api.OK
		if m%2 == 1 {
			behind = api.ErrEmpty
		}
		asks(t, k, await(f, 3, m, 0), true, behind)
	}
	k, _ := starts(t, 9, 5)
	f, s := makes(t, k, api.KiFlags, 6, 0), makes(t, k, api.KiCount, 1, 1)
	for _, m := range []uint32{4, 5, 7, 256, 1 << 31, 1<<32 - 1} {
		for _, wait := range []int64{-1, 0, 5, 1 << 40} {
			asks(t, k, await(f, 4, m, wait), true, api.ErrArg)
		}
		does(t, k, api.Ask{What: api.WhRaise, H: f, V: 1, M: m})
	}
	does(t, k, api.Ask{What: api.WhTake, H: s, M: 4})
}

// hopeless is a kernel of a task, and what it asks for is not there, of all that may wait for a thing.
func hopeless(t *testing.T, what api.What) (*Kernel, uint32, uint32) {
	t.Helper()
	k, l := starts(t, 9, 5)
	things := map[api.What]uint32{
		api.WhTake: makes(t, k, api.KiCount, 0, 1), api.WhLock: makes(t, k, api.KiLock, 0, 0), api.WhPut: makes(t, k, api.KiRow, 1, 0),
		api.WhGet: makes(t, k, api.KiRow, 1, 0), api.WhAwait: makes(t, k, api.KiFlags, 0, 0), api.WhAlloc: makes(t, k, api.KiPool, 1, 1),
	}
	things[api.WhPush] = things[api.WhPut]
	does(t, k, lock(things[api.WhLock], 0))
	does(t, k, put(things[api.WhPut], 1, 0))
	does(t, k, alloc(things[api.WhAlloc], 0))
	is(t, "Hold", k.Hold(l[0]), api.OK)
	return k, comes(t, k, 5), things[what]
}

// refusals of those that do not wait.
func refusals() map[api.What]api.Errno {
	return map[api.What]api.Errno{
		api.WhTake: api.ErrEmpty, api.WhLock: api.ErrBusy, api.WhPut: api.ErrFull, api.WhPush: api.ErrFull,
		api.WhGet: api.ErrEmpty, api.WhAwait: api.ErrEmpty, api.WhAlloc: api.ErrEmpty,
	}
}

// P20.6: of all that may wait for a thing: Wait below 0, at 0, above, at MaxWait and one more.
func TestWait(t *testing.T) {
	for what, refused := range refusals() {
		k, h, x := hopeless(t, what)
		asks(t, k, api.Ask{What: what, H: x, V: 1}, true, refused)
		for _, wait := range []int64{1<<30 + 1, 1 << 31, 1 << 32, 1<<32 + 1, math.MaxInt64} {
			asks(t, k, api.Ask{What: what, H: x, V: 1, Wait: wait}, true, api.ErrRange)
		}
		if y := taskOf(t, k, h); y.Answers != 6 || y.State != api.StReady || y.Left != 0 || y.Waits != (api.Ask{}) {
			t.Errorf("What %d: %+v", what, y)
		}
		waiting(t, k, x)
		for wait, left := range map[int64]int64{math.MinInt64: -1, -1 << 32: -1, -2: -1, -1: -1, 1: 1, 7: 7, 1<<30 - 1: 1<<30 - 1, 1 << 30: 1 << 30} {
			k, h, x := hopeless(t, what)
			a := api.Ask{What: what, H: x, V: 1, M: 1, Wait: wait}
			begins(t, k, a)
			want := api.Task{Handle: h, State: api.StWaits, Base: 5, Rank: 5, Waits: a, Left: left}
			if y := taskOf(t, k, h); y != want {
				t.Errorf("%+v: %+v, want %+v", a, y, want)
			}
			waiting(t, k, x, h)
			runs(t, k, 0)
		}
	}
}

// P20.6: a Wait that may not be is told of what would be answered at once, too, ahead of what it were answered; what may not wait has any.
func TestWaitRange(t *testing.T) {
	k, _ := starts(t, 9, 5)
	things := oneOfEach(t, k)
	does(t, k, lock(things[1], 0))
	for what, kind := range kinds() {
		want := map[api.What]api.Errno{api.WhGive: api.ErrFull, api.WhUnlock: api.OK, api.WhPeek: api.ErrEmpty, api.WhFree: api.ErrArg, api.WhStop: api.ErrState, api.WhStart: api.ErrRange}
		if _, ok := refusals()[what]; ok {
			want[what] = api.ErrRange
		}
		a := api.Ask{What: what, H: things[kind-1], V: 1, Wait: 1<<30 + 1}
		if what == api.WhStart {
			a.V = 0
		}
		asks(t, k, a, true, want[what])
	}
}

// P20.6: errors of objects.Try but ErrState are answered at once, however long who asks would wait.
func TestTryErrors(t *testing.T) {
	for _, wait := range []int64{-1, 0, 5} {
		k, l := starts(t, 9, 5)
		m, p, q := makes(t, k, api.KiLock, 0, 0), makes(t, k, api.KiPool, 2, 1), makes(t, k, api.KiRow, 1, 0)
		does(t, k, lock(m, wait))
		does(t, k, alloc(p, wait))
		asks(t, k, lock(m, wait), true, api.ErrOwner)
		asks(t, k, api.Ask{What: api.WhFree, H: p, V: 1, Wait: wait}, true, api.ErrOwner)
		asks(t, k, api.Ask{What: api.WhFree, H: p, V: 2, Wait: wait}, true, api.ErrArg)
		asks(t, k, api.Ask{What: api.WhPeek, H: q, Wait: wait}, true, api.ErrEmpty)
		other := comes(t, k, 6)
		asks(t, k, api.Ask{What: api.WhUnlock, H: m, Wait: wait}, true, api.ErrOwner)
		asks(t, k, api.Ask{What: api.WhFree, H: p, V: 0, Wait: wait}, true, api.ErrOwner)
		if x, y := taskOf(t, k, l[0]), taskOf(t, k, other); x.Answers != 6 || x.Last != api.ErrEmpty || y.Answers != 2 || y.Last != api.ErrOwner {
			t.Errorf("Wait %d: %+v, %+v", wait, x, y)
		}
	}
}

// P20.6: WhStart at the bounds of V and M; WhStop.
func TestStart(t *testing.T) {
	const most = 1 << 30
	k, _ := starts(t, 9, 5)
	s := makes(t, k, api.KiCount, 0, 9)
	x := makes(t, k, api.KiAlarm, s, 0)
	start := func(v, m uint32) api.Ask { return api.Ask{What: api.WhStart, H: x, V: v, M: m, Wait: -9} }
	stop := api.Ask{What: api.WhStop, H: x, V: 9, M: 9, Wait: 1 << 40}
	left := func(want int64) {
		t.Helper()
		if y := thingOf(t, k, x); y.Left != want {
			t.Fatalf("Left is %d, want %d", y.Left, want)
		}
	}
	asks(t, k, stop, true, api.ErrState)
	for _, a := range []api.Ask{start(0, 0), start(0, 5), start(most+1, 0), start(1<<31, 0), start(1<<32-1, 1), start(1, most+1), start(1, 1<<31), start(most, 1<<32-1)} {
		asks(t, k, a, true, api.ErrRange)
		left(0)
	}
	for _, a := range []api.Ask{start(most, 0), start(most, most), start(1, most), start(1, 1), start(1, 0), start(6, 0)} {
		does(t, k, a)
		left(int64(a.V))
		asks(t, k, start(0, 0), true, api.ErrRange)
		left(int64(a.V))
	}
	ticks(t, k, 2)
	left(4)
	does(t, k, stop)
	left(0)
	asks(t, k, stop, true, api.ErrState)
	ticks(t, k, 9)
	if y := thingOf(t, k, s); y.Count != 0 {
		t.Errorf("it came: %+v", y)
	}
}

// P20.6: what waits for itself, by two mutexes and by more, does not, and is answered at once; without Wait it is not now alone.
func TestCircle(t *testing.T) {
	for n := 2; n <= 6; n++ {
		for _, wait := range []int64{-1, 1, 1 << 30} {
			k, _ := starts(t, 9)
			var locks []uint32
			for range n {
				locks = append(locks, makes(t, k, api.KiLock, 0, 0))
			}
			for i := range n {
				comes(t, k, 1+i)
				does(t, k, lock(locks[i], 0))
				if i > 0 {
					begins(t, k, lock(locks[i-1], -1))
				}
			}
			runs(t, k, 256)
			asks(t, k, lock(locks[n-1], 0), true, api.ErrBusy)
			asks(t, k, lock(locks[n-1], wait), true, api.ErrState)
			if x := taskOf(t, k, 256); x.State != api.StReady || x.Rank != n || x.Answers != 3 || x.Last != api.ErrState || x.Value != 0 {
				t.Errorf("%d: %+v", n, x)
			}
			waiting(t, k, locks[n-1])
			does(t, k, unlock(locks[0]))
			if x := thingOf(t, k, locks[0]); x.Owner != 257 {
				t.Errorf("%d: %+v", n, x)
			}
		}
	}
}

// P20.6: mutexes of other tasks, and other things, do not make a circle.
func TestNoCircle(t *testing.T) {
	k, l := starts(t, 9, 1)
	a, b := makes(t, k, api.KiLock, 0, 0), makes(t, k, api.KiLock, 0, 0)
	s, p := makes(t, k, api.KiCount, 0, 1), makes(t, k, api.KiPool, 1, 1)
	does(t, k, lock(a, 0))
	does(t, k, alloc(p, 0))
	comes(t, k, 2)
	does(t, k, lock(b, 0))
	begins(t, k, alloc(p, -1)) // of whom has the first mutex
	begins(t, k, lock(b, -1))  // who has it waits, but for no mutex
	looks(t, k, "256 waits - 1 1 5 257 0 0 -1 2 0 0", "257 waits - 2 2 14 259 0 0 -1 1 0 0")
	y := comes(t, k, 3)
	begins(t, k, lock(a, -1)) // a chain: who has it waits for the second one
	looks(t, k, "256 waits - 1 3 5 257 0 0 -1 2 0 0", "257 waits - 2 3 14 259 0 0 -1 1 0 0", "258 waits - 3 3 5 256 0 0 -1 0 0 0")
	comes(t, k, 4)
	begins(t, k, take(s, -1))
	is(t, "Fault", k.Fault(l[0]), api.OK)
	runs(t, k, y)
	looks(t, k, "256 fault - 1 3 - 2 0 0", "257 ready - 2 2 - 2 0 0", "258 ready - 3 3 - 1 0 0", "259 waits - 4 4 3 258 0 0 -1 0 0 0")
}

// chain is a kernel with four tasks of the ranks 1, 2, 3 and 9, each of which waits for a mutex of the one ahead of it.
func chain(t *testing.T, wait int64) (*Kernel, []uint32, []uint32) {
	t.Helper()
	k, _ := starts(t, 9)
	var l, locks []uint32
	for i, rank := range []int{1, 2, 3, 9} {
		l = append(l, comes(t, k, rank))
		locks = append(locks, makes(t, k, api.KiLock, 0, 0))
		does(t, k, lock(locks[i], 0))
		if i > 0 {
			begins(t, k, lock(locks[i-1], wait))
		}
	}
	ranked(t, k, 9, 9, 9, 9)
	runs(t, k, l[0])
	return k, l, locks
}

// P20.6, P20.11: ranks are lent along a chain of mutexes, and fall whenever the chain breaks, by whatever does.
func TestChain(t *testing.T) {
	breaks := map[string]struct {
		of    func(k *Kernel, l, locks []uint32) api.Errno
		ranks []int
	}{
		"the last one is at fault":            {func(k *Kernel, l, _ []uint32) api.Errno { return k.Fault(l[3]) }, []int{3, 3, 3, 9}},
		"the last one ends":                   {func(k *Kernel, l, _ []uint32) api.Errno { return k.End(l[3]) }, []int{3, 3, 3}},
		"the last one's rank falls":           {func(k *Kernel, l, _ []uint32) api.Errno { return k.Rank(l[3], 0) }, []int{3, 3, 3, 0}},
		"the last one's rank falls a bit":     {func(k *Kernel, l, _ []uint32) api.Errno { return k.Rank(l[3], 5) }, []int{5, 5, 5, 5}},
		"the last one's rank rises":           {func(k *Kernel, l, _ []uint32) api.Errno { return k.Rank(l[3], 31) }, []int{31, 31, 31, 31}},
		"the last one's mutex is dropped":     {func(k *Kernel, _, locks []uint32) api.Errno { return k.Drop(locks[2]) }, []int{3, 3, 3, 9}},
		"the second one is at fault":          {func(k *Kernel, l, _ []uint32) api.Errno { return k.Fault(l[1]) }, []int{1, 9, 9, 9}},
		"the second one ends":                 {func(k *Kernel, l, _ []uint32) api.Errno { return k.End(l[1]) }, []int{1, 9, 9}},
		"the second one's rank turns":         {func(k *Kernel, l, _ []uint32) api.Errno { return k.Rank(l[1], 4) }, []int{9, 9, 9, 9}},
		"the first mutex is dropped":          {func(k *Kernel, _, locks []uint32) api.Errno { return k.Drop(locks[0]) }, []int{1, 9, 9, 9}},
		"the first mutex is given back":       {func(k *Kernel, _, locks []uint32) api.Errno { _, e := k.Ask(unlock(locks[0])); return e }, []int{1, 9, 9, 9}},
		"the first one ends":                  {func(k *Kernel, _, _ []uint32) api.Errno { _, e := k.Ask(api.Ask{What: api.WhEnd}); return e }, []int{9, 9, 9}},
		"the third one is held, and waits on": {func(k *Kernel, l, _ []uint32) api.Errno { return k.Hold(l[2]) }, []int{9, 9, 9, 9}},
	}
	for name, one := range breaks {
		k, l, locks := chain(t, -1)
		is(t, name, one.of(k, l, locks), api.OK)
		t.Log(name)
		ranked(t, k, one.ranks...)
	}
}

// P20.6, P20.8: the rank that was lent falls when who waits waited too long.
func TestChainTimeout(t *testing.T) {
	k, _, _ := chain(t, -1)
	x := comes(t, k, 12)
	begins(t, k, lock(256+3, 2)) // of the last one
	ranked(t, k, 12, 12, 12, 12, 12)
	ticks(t, k, 1)
	ranked(t, k, 12, 12, 12, 12, 12)
	ticks(t, k, 1)
	ranked(t, k, 9, 9, 9, 9, 12)
	runs(t, k, x)
	if y := taskOf(t, k, x); y.Last != api.ErrTimeout {
		t.Errorf("it is %+v", y)
	}
}

// P20.6: several that wait for one mutex: the greatest rank is lent, and the next greatest behind it; the mutex goes to the first one.
func TestLockOrder(t *testing.T) {
	k, l := starts(t, 9, 1)
	m := makes(t, k, api.KiLock, 0, 0)
	does(t, k, lock(m, 0))
	for i, rank := range []int{3, 5, 7} {
		l = append(l, comes(t, k, rank))
		begins(t, k, lock(m, int64(9*i-1)))
	}
	waiting(t, k, m, l[3], l[2], l[1])
	ranked(t, k, 7, 3, 5, 7)
	does(t, k, unlock(m))
	ranked(t, k, 1, 3, 5, 7)
	runs(t, k, l[3])
	does(t, k, api.Ask{What: api.WhRank, V: 2})
	looks(t, k, "256 ready - 1 1 - 2 0 0", "257 waits - 3 3 5 256 0 0 -1 0 0 0", "258 waits - 5 5 5 256 0 0 8 0 0 0", "259 ready - 2 5 - 2 0 0")
	does(t, k, unlock(m))
	runs(t, k, l[2])
	looks(t, k, "256 ready - 1 1 - 2 0 0", "257 waits - 3 3 5 256 0 0 -1 0 0 0", "258 ready - 5 5 - 1 0 0", "259 ready - 2 2 - 3 0 0")
}
