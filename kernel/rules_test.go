package kernel

import (
	"math"
	"reflect"
	"testing"

	"timekeeper/api"
)

// rich is a kernel in which all that there is is in use: the task 260 runs, of rank 4 and lent 6, which has the mutex 257 and the block of the pool 260.
func rich(t *testing.T) *Kernel {
	t.Helper()
	k, _ := starts(t, 3, 9, 8, 7, 3)
	oneOfEach(t, k)
	makes(t, k, api.KiLock, 0, 0)
	does(t, k, take(256, 0))
	begins(t, k, take(256, 9))
	does(t, k, lock(262, 0))
	begins(t, k, sleep(4))
	is(t, "Hold", k.Hold(257), api.OK)
	is(t, "Fault", k.Fault(258), api.OK)
	is(t, "Drop", k.Drop(259), api.OK)
	comes(t, k, 4)
	does(t, k, lock(257, 0))
	does(t, k, alloc(260, 0))
	does(t, k, api.Ask{What: api.WhStart, H: 261, V: 2, M: 2})
	is(t, "End", k.End(259), api.OK)
	comes(t, k, 6)
	begins(t, k, lock(257, 7))
	comes(t, k, 7)
	ticks(t, k, 1)
	begins(t, k, alloc(260, -1))
	runs(t, k, 260)
	ranked(t, k, 9, 8, 7, 6, 6, 7)
	return k
}

// later is what is seen of a kernel at each of some calls from now on.
func later(t *testing.T, k *Kernel) []view {
	t.Helper()
	seen := []view{viewOf(k)}
	for i := range 8 {
		ticks(t, k, 1)
		seen = append(seen, viewOf(k))
		if i == 2 {
			k.Ask(unlock(257))
			k.Ask(api.Ask{What: api.WhFree, H: 260})
		}
	}
	comes(t, k, 3)
	makes(t, k, api.KiLock, 0, 0)
	return append(seen, viewOf(k))
}

// wrongs are calls that answer an error, of the rich kernel.
func wrongs() map[string]struct {
	of   func(k *Kernel) api.Errno
	want api.Errno
} {
	type wrong = struct {
		of   func(k *Kernel) api.Errno
		want api.Errno
	}
	task := func(rank int, want api.Errno) wrong {
		return wrong{func(k *Kernel) api.Errno { _, e := k.Task(rank); return e }, want}
	}
	thing := func(m api.Make, want api.Errno) wrong {
		return wrong{func(k *Kernel) api.Errno { _, e := k.Thing(m); return e }, want}
	}
	ask := func(what api.What, want api.Errno) wrong {
		return wrong{func(k *Kernel) api.Errno { _, e := k.Ask(api.Ask{What: what, H: 256, Wait: -1}); return e }, want}
	}
	rank := func(h uint32, rank int, want api.Errno) wrong {
		return wrong{func(k *Kernel) api.Errno { return k.Rank(h, rank) }, want}
	}
	of := func(call func(k *Kernel, h uint32) api.Errno, h uint32, want api.Errno) wrong {
		return wrong{func(k *Kernel) api.Errno { return call(k, h) }, want}
	}
	signal := func(k *Kernel, h uint32) api.Errno { return k.Signal(api.Bind{H: h, V: 3}) }
	return map[string]struct {
		of   func(k *Kernel) api.Errno
		want api.Errno
	}{
		"Task -1": task(-1, api.ErrRange), "Task 32": task(32, api.ErrRange),
		"Thing": thing(api.Make{}, api.ErrArg), "an alarm for a mutex": thing(api.Make{Kind: api.KiAlarm, A: 257}, api.ErrArg),
		"an alarm for nothing": thing(api.Make{Kind: api.KiAlarm, A: 999}, api.ErrHandle), "an alarm for what was dropped": thing(api.Make{Kind: api.KiAlarm, A: 259}, api.ErrStale),
		"Ask nothing": ask(api.WhNone, api.ErrArg), "Ask 21": ask(21, api.ErrArg), "Ask 255": ask(255, api.ErrArg),
		"Rank -1": rank(260, -1, api.ErrRange), "Rank 32": rank(260, 32, api.ErrRange), "Rank of one at fault": rank(258, 1, api.ErrState),
		"Rank of none": rank(512, 1, api.ErrHandle),
		"End of none":  of((*Kernel).End, 0, api.ErrHandle), "End of a place yet to come": of((*Kernel).End, 512, api.ErrHandle), "Fault of none": of((*Kernel).Fault, 511, api.ErrHandle),
		"Fault again": of((*Kernel).Fault, 258, api.ErrState), "Hold again": of((*Kernel).Hold, 257, api.ErrState), "Hold of one at fault": of((*Kernel).Hold, 258, api.ErrState),
		"Hold of none": of((*Kernel).Hold, 999, api.ErrHandle), "Free of one that is": of((*Kernel).Free, 260, api.ErrState), "Free of one at fault": of((*Kernel).Free, 258, api.ErrState),
		"Free of none": of((*Kernel).Free, 1, api.ErrHandle), "Drop of none": of((*Kernel).Drop, 1, api.ErrHandle), "Drop again": of((*Kernel).Drop, 259, api.ErrStale),
		"Drop of a pool": of((*Kernel).Drop, 260, api.ErrBusy), "Signal of none": of(signal, 1, api.ErrHandle), "Signal of what was dropped": of(signal, 259, api.ErrStale),
		"Signal of a mutex": of(signal, 257, api.ErrArg), "Signal of a queue": of(signal, 258, api.ErrArg), "Signal of a pool": of(signal, 260, api.ErrArg), "Signal of an alarm": of(signal, 261, api.ErrArg),
	}
}

// R2: a call that answers an error has changed nothing that is seen, or that a later call could tell.
func TestErrorsChangeNothing(t *testing.T) {
	want := later(t, rich(t))
	for name, one := range wrongs() {
		k := rich(t)
		is(t, name, one.of(k), one.want)
		is(t, name+" again", one.of(k), one.want)
		if got := later(t, k); !reflect.DeepEqual(got, want) {
			t.Errorf("%s: seen\n%+v, want\n%+v", name, got, want)
		}
	}
}

// R2: nor does ErrMany, or ErrFull, or what is asked where nobody runs.
func TestFullChangesNothing(t *testing.T) {
	full := func() *Kernel {
		k, _ := starts(t, 2, 5, 5, 5, 5, 5, 5, 5, 5, 5, 5, 5, 5, 5, 5, 5, 5)
		for range 32 {
			makes(t, k, api.KiCount, 1, 1)
		}
		ticks(t, k, 1)
		return k
	}
	seen := func(k *Kernel) []view {
		seen := []view{viewOf(k)}
		for range 5 {
			ticks(t, k, 1)
			seen = append(seen, viewOf(k))
		}
		is(t, "End", k.End(256), api.OK)
		is(t, "Drop", k.Drop(256), api.OK)
		comes(t, k, 1)
		makes(t, k, api.KiLock, 0, 0)
		return append(seen, viewOf(k))
	}
	want := seen(full())
	k := full()
	if h, e := k.Task(9); h != 0 || e != api.ErrMany {
		t.Fatalf("Task: %d, error %d", h, e)
	}
	if h, e := k.Thing(api.Make{Kind: api.KiLock}); h != 0 || e != api.ErrMany {
		t.Fatalf("Thing: %d, error %d", h, e)
	}
	is(t, "Signal", k.Signal(api.Bind{H: 256}), api.ErrFull)
	if got := seen(k); !reflect.DeepEqual(got, want) {
		t.Errorf("seen\n%+v, want\n%+v", got, want)
	}
	k, _ = starts(t, 2, 5)
	begins(t, k, sleep(2))
	before := viewOf(k)
	asks(t, k, api.Ask{What: api.WhEnd}, false, api.ErrState)
	if behind := viewOf(k); !reflect.DeepEqual(behind, before) {
		t.Errorf("nobody runs: %+v, ahead %+v", behind, before)
	}
}

// P20.6, P0.4: what a task asks that may not be changes nothing but what it was answered.
func TestAskErrorsChangeNothing(t *testing.T) {
	for _, a := range []api.Ask{
		sleep(-1), sleep(1 << 31), {What: api.WhRank, V: 32}, take(256, 0), take(256, 1<<31), take(999, -1), take(259, -1), take(257, -1), lock(257, -1), lock(262, 0),
		unlock(262), {What: api.WhPeek, H: 258}, get(258, 0), alloc(260, 0), {What: api.WhFree, H: 260, V: 1}, {What: api.WhFree, H: 262}, {What: api.WhRaise, H: 259, V: 1},
		{What: api.WhStart, H: 261}, {What: api.WhStart, H: 261, V: 1, M: 1 << 31}, {What: api.WhStart, H: 256, V: 1}, {What: api.WhStop, H: 256}, {What: api.WhStop, H: 999},
	} {
		want, k := later(t, rich(t)), rich(t)
		answered, e := k.Ask(a)
		x := taskOf(t, k, 260)
		if !answered || e == api.OK || x.Answers != 4 || x.Last != e || x.Value != 0 {
			t.Fatalf("Ask(%+v): %v, error %d, %+v", a, answered, e, x)
		}
		got := later(t, k)
		for i := range got {
			unanswered(got[i].Tasks)
			unanswered(want[i].Tasks)
		}
		if !reflect.DeepEqual(got, want) {
			t.Errorf("%+v: seen\n%+v, want\n%+v", a, got, want)
		}
	}
}

// unanswered lets what the task 260 was answered be out of what is seen.
func unanswered(l []api.Task) {
	for i := range l {
		if l[i].Handle == 260 {
			l[i].Answers, l[i].Last, l[i].Value = 0, 0, 0
		}
	}
}

// R3: a kernel that is not there, or that no call made, answers ErrNil, ahead of all that is wrong besides, and zero values.
func TestNoKernel(t *testing.T) {
	for _, k := range []*Kernel{nil, {}} {
		for _, n := range []int{-1, 0, 5, 31, 32} {
			if h, e := k.Task(n); h != 0 || e != api.ErrNil {
				t.Errorf("Task(%d): %d, error %d", n, h, e)
			}
			is(t, "Rank", k.Rank(256, n), api.ErrNil)
			isReady(t, k, n)
		}
		for _, h := range append(noHandles(), 256) {
			is(t, "End", k.End(h), api.ErrNil)
			is(t, "Fault", k.Fault(h), api.ErrNil)
			is(t, "Hold", k.Hold(h), api.ErrNil)
			is(t, "Free", k.Free(h), api.ErrNil)
			is(t, "Drop", k.Drop(h), api.ErrNil)
			is(t, "Signal", k.Signal(api.Bind{H: h, V: 1}), api.ErrNil)
		}
		for kind := range 9 {
			if h, e := k.Thing(api.Make{Kind: api.Kind(kind), A: 1, B: uint32(kind % 2)}); h != 0 || e != api.ErrNil {
				t.Errorf("Thing(%d): %d, error %d", kind, h, e)
			}
		}
		for what := range 256 {
			asks(t, k, api.Ask{What: api.What(what), H: 256, Wait: 1}, false, api.ErrNil)
		}
		is(t, "Tick", k.Tick(), api.ErrNil)
		if k.Runs() != 0 || k.Now() != 0 || len(k.Tasks()) != 0 || len(k.Things()) != 0 {
			t.Errorf("%d %d %v %v", k.Runs(), k.Now(), k.Tasks(), k.Things())
		}
		if k != nil && !reflect.DeepEqual(*k, Kernel{}) {
			t.Errorf("it is %+v", *k)
		}
	}
}

// spoil a list, and the room behind it.
func spoil[T any](l []T, with T) {
	l = l[:cap(l)]
	for i := range l {
		l[i] = with
	}
}

// R4: what is answered is memory of its own, spare room too: of the kernel, of another answer, of another list of the same one.
func TestAnswersAreOwn(t *testing.T) {
	k := rich(t)
	before := viewOf(k)
	for range 3 {
		kept := viewOf(k)
		spoil(k.Tasks(), api.Task{Handle: 7, State: 9, Rank: -5})
		for rank := range 32 {
			spoil(k.Ready(rank), 77)
		}
		things := k.Things()
		for i := range things {
			spoil(things[i].Waits, 71)
			for j, x := range things {
				for _, h := range x.Owners {
					if h == 71 {
						t.Errorf("%d: owners are who waits for %d", j, i)
					}
				}
			}
			spoil(things[i].Owners, 72)
			spoil(things[i].Row, 73)
			if len(things[i].Waits) > 0 && things[i].Waits[0] != 71 {
				t.Errorf("%d: who waits is who has it", i)
			}
		}
		spoil(things, api.Thing{Handle: 9, Count: 5})
		if now := viewOf(k); !reflect.DeepEqual(now, before) || !reflect.DeepEqual(kept, before) {
			t.Fatalf("seen\n%+v, want\n%+v", now, before)
		}
	}
	want := later(t, rich(t))
	if got := later(t, k); !reflect.DeepEqual(got, want) {
		t.Errorf("later\n%+v, want\n%+v", got, want)
	}
}

// R5: two kernels have nothing in common: each is as its plain reading is, whatever the other one is asked in between.
func TestTwoKernels(t *testing.T) {
	m := mixes()
	a, b := twinsOf(t, api.Setup{Slice: 2}), twinsOf(t, api.Setup{Slice: 3, Now: 77})
	d, e := &draw{at: 5}, &draw{at: 5}
	for range 1500 {
		a.do(d.next(m[0], a.before))
		b.do(e.next(m[2], b.before))
	}
}

// R5: what is asked alike is answered alike.
func TestAgain(t *testing.T) {
	if x, y := later(t, rich(t)), later(t, rich(t)); !reflect.DeepEqual(x, y) {
		t.Errorf("once\n%+v, and once\n%+v", x, y)
	}
}

// R1: no call panics, and each is as the plain reading of it, at all arguments.
func TestAllArguments(t *testing.T) {
	handles := append(noHandles(), 256, 257, 258, 259, 260, 261, 262, 512)
	numbers := []uint32{0, 1, 31, 32, 1 << 30, 1<<30 + 1, 1 << 31, 1<<32 - 1}
	waits := []int64{math.MinInt64, -1, 0, 1, 1 << 30, 1<<30 + 1, math.MaxInt64}
	for what := range 24 {
		for i, h := range handles {
			for j, v := range numbers {
				k := rich(t)
				m, wait := numbers[(i+j)%len(numbers)], waits[(i+3*j)%len(waits)]
				answered, e := k.Ask(api.Ask{What: api.What(what), H: h, V: v, M: m, Wait: wait})
				if !answered && e != api.OK && what != 0 && what <= 20 {
					t.Errorf("Ask(%d, %d, %d, %d, %d): error %d, unanswered", what, h, v, m, wait, e)
				}
				if what := promised(viewOf(k)); what != "" {
					t.Errorf("Ask(%v, %d, %d, %d, %d): %s", what, h, v, m, wait, what)
				}
			}
		}
	}
}

// The chapter's examples.
func TestExamples(t *testing.T) {
	begin := func() (*Kernel, uint32, uint32, uint32) {
		k, l := starts(t, 2, 1, 5)
		return k, l[0], l[1], makes(t, k, api.KiLock, 0, 0)
	}
	k, a, b, m := begin()
	runs(t, k, b)
	begins(t, k, sleep(1))
	runs(t, k, a)
	does(t, k, lock(m, 0))
	ticks(t, k, 1)
	runs(t, k, b)
	begins(t, k, lock(m, -1))
	runs(t, k, a)
	if x := taskOf(t, k, a); x.Rank != 5 {
		t.Errorf("A's rank is %d", x.Rank)
	}
	does(t, k, unlock(m))
	runs(t, k, b)
}
