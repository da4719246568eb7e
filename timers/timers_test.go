package timers

import (
	"math"
	"slices"
	"testing"

	"timekeeper/api"
)

// ids are such as an alarm may have, small ones and great ones, some of which are alike in fewer bits.
func ids() []int {
	return []int{
		0, 1, 2, 5, 31, 32, 127, 128, 255, 256, 257, 65535, 65536, math.MaxInt32, 1 << 31, 1<<32 - 1, 1 << 32, 1<<32 + 1, 1<<32 + 5, 1<<62 + 5, math.MaxInt - 1, math.MaxInt,
	}
}

// belowZero are ids that no alarm has, some of which are 0 or above in fewer bits.
func belowZero() []int {
	return []int{
		math.MinInt, math.MinInt + 1, math.MinInt + 5, -1<<32 - 1, -1 << 32, -1<<32 + 1, -1<<32 + 5, math.MinInt32, -65536, -257, -256, -255, -251, -7, -2, -1,
	}
}

// noTicks are numbers that neither in nor each may be, some of which may be in fewer bits.
func noTicks() []int64 {
	return []int64{
		math.MinInt64, math.MinInt64 + 1, -1<<32 + 5, -1 << 32, math.MinInt32, -1<<30 - 1, -1 << 30, -251, -2, -1,
		1<<30 + 1, 1<<30 + 2, math.MaxInt32, 1 << 31, 1<<32 - 1, 1 << 32, 1<<32 + 1, 1<<33 + 5, math.MaxInt64 - 1, math.MaxInt64,
	}
}

// ticks are numbers that in may be, and each.
func ticks() []int64 {
	return []int64{1, 2, 3, 31, 32, 255, 256, 257, 65535, 65536, 1<<30 - 1, 1 << 30}
}

func starts(t *testing.T, a *Alarms, id int, in, each int64, want api.Errno) {
	t.Helper()
	if e := a.Start(id, in, each); e != want {
		t.Fatalf("Start(%d, %d, %d): error %d, want %d", id, in, each, e, want)
	}
}

func stops(t *testing.T, a *Alarms, id int, want api.Errno) {
	t.Helper()
	if e := a.Stop(id); e != want {
		t.Fatalf("Stop(%d): error %d, want %d", id, e, want)
	}
}

// comes is whether those come at the next tick, in this order.
func comes(t *testing.T, a *Alarms, those ...int) {
	t.Helper()
	if got := a.Tick(); !slices.Equal(got, those) {
		t.Fatalf("Tick() = %v, want %v", got, those)
	}
}

// comesAt is whether an alarm alone comes at the last of so many ticks.
func comesAt(t *testing.T, a *Alarms, id int, tick int64) {
	t.Helper()
	for gone := int64(1); gone < tick; gone++ {
		comes(t, a)
	}
	comes(t, a, id)
}

// silent is whether none comes for so many ticks.
func silent(t *testing.T, a *Alarms, many int) {
	t.Helper()
	for range many {
		comes(t, a)
	}
}

func leaves(t *testing.T, a *Alarms, id int, want int64) {
	t.Helper()
	if left := a.Left(id); left != want {
		t.Fatalf("Left(%d) = %d, want %d", id, left, want)
	}
}

// runsNot is whether an alarm does not run, as all calls but Start tell.
func runsNot(t *testing.T, a *Alarms, id int) {
	t.Helper()
	leaves(t, a, id, 0)
	stops(t, a, id, api.ErrState)
}

// set is how an alarm is started.
type set struct {
	id       int
	in, each int64
}

func of(t *testing.T, these ...set) *Alarms {
	t.Helper()
	a := New()
	for _, one := range these {
		starts(t, a, one.id, one.in, one.each, api.OK)
	}
	return a
}

// busy are alarms of all kinds, behind two ticks: 0, 1, 2, 3, 6 and 7 run, 4 came, 5 was stopped.
func busy(t *testing.T) *Alarms {
	t.Helper()
	a := of(t, set{3, 4, 0}, set{1, 4, 3}, set{4, 1, 0}, set{2, 1, 2}, set{5, 4, 4}, set{0, 4, 0}, set{7, 9, 1}, set{6, 1 << 30, 1 << 30})
	comes(t, a, 4, 2)
	stops(t, a, 5, api.OK)
	comes(t, a)
	return a
}

// same is whether two of them tell the same, now and at each of many ticks.
func same(t *testing.T, a, other *Alarms) {
	t.Helper()
	for range 30 {
		for id := -1; id < 10; id++ {
			leaves(t, a, id, other.Left(id))
		}
		comes(t, a, other.Tick()...)
	}
}

// P19.1: none runs, and each may be started.
func TestNewHasNone(t *testing.T) {
	a := New()
	if a == nil {
		t.Fatal("New() = nil")
	}
	for range 2 {
		for _, id := range append(ids(), belowZero()...) {
			runsNot(t, a, id)
		}
		silent(t, a, 3)
	}
	for _, id := range ids() {
		starts(t, a, id, 1, 0, api.OK)
	}
	comes(t, a, ids()...)
}

// P19.2: in and each at their bounds, of ids of all sizes; it comes in ticks away, and each further.
func TestStartAtItsBounds(t *testing.T) {
	for _, id := range ids() {
		for _, in := range ticks() {
			for _, each := range append(ticks(), 0) {
				a := New()
				starts(t, a, id, in, each, api.OK)
				leaves(t, a, id, in)
				if in > 257 {
					comes(t, a)
					leaves(t, a, id, in-1)
					continue
				}
				comesAt(t, a, id, in)
				leaves(t, a, id, each)
			}
		}
	}
}

// P19.2: ids that are alike in fewer bits are of several alarms.
func TestStartKeepsIdsApart(t *testing.T) {
	a := New()
	for i, id := range ids() {
		starts(t, a, id, int64(i+1), 0, api.OK)
	}
	for i, id := range ids() {
		leaves(t, a, id, 1)
		comes(t, a, id)
		runsNot(t, a, id)
		for _, other := range ids()[i+1:] {
			if a.Left(other) == 0 {
				t.Fatalf("Left(%d) = 0 when %d came", other, id)
			}
		}
	}
}

// P19.2, R2: an id below 0 is told ahead of numbers out of their range, and nothing is changed.
func TestStartErrArg(t *testing.T) {
	a := busy(t)
	for _, id := range belowZero() {
		for _, in := range append(ticks(), append(noTicks(), 0)...) {
			for _, each := range []int64{0, 1, 1 << 30, -1, 1<<30 + 1, math.MinInt64, math.MaxInt64} {
				starts(t, a, id, in, each, api.ErrArg)
				starts(t, New(), id, in, each, api.ErrArg)
			}
		}
		runsNot(t, a, id)
	}
	same(t, a, busy(t))
}

// P19.2, R2: in or each out of its range changes nothing, not even an alarm of that id that runs.
func TestStartErrRange(t *testing.T) {
	for _, id := range []int{0, 1, 2, 3, 4, 5, 6, 7, 8, 1 << 32, math.MaxInt} {
		a := busy(t)
		left := a.Left(id)
		for _, no := range noTicks() {
			for _, good := range append(ticks(), 0) {
				starts(t, a, id, no, good, api.ErrRange)
				starts(t, a, id, max(good, 1), no, api.ErrRange)
				starts(t, a, id, 0, good, api.ErrRange)
			}
			starts(t, a, id, no, no, api.ErrRange)
			starts(t, a, id, 0, no, api.ErrRange)
			starts(t, New(), id, 1, no, api.ErrRange)
			starts(t, New(), id, no, 1, api.ErrRange)
		}
		leaves(t, a, id, left)
		same(t, a, busy(t))
	}
}

// P19.2: what was refused of an id that does not run does not run, and may be started.
func TestStartRefusedRunsNot(t *testing.T) {
	a := New()
	starts(t, a, 5, 0, 1, api.ErrRange)
	starts(t, a, 5, 1, -1, api.ErrRange)
	starts(t, a, 5, 1, 1<<30+1, api.ErrRange)
	runsNot(t, a, 5)
	silent(t, a, 3)
	starts(t, a, 5, 1, 0, api.OK)
	comes(t, a, 5)
	silent(t, a, 3)
}

// P19.2: who runs and is started comes by its new numbers alone: earlier or later, once or again and again.
func TestStartAgain(t *testing.T) {
	for _, was := range []set{{5, 3, 0}, {5, 3, 1}, {5, 3, 2}, {5, 3, 1 << 30}, {5, 1, 0}, {5, 1, 1}, {5, 7, 7}, {5, 1 << 30, 0}} {
		for _, now := range []set{{5, 1, 0}, {5, 3, 0}, {5, 4, 0}, {5, 9, 0}, {5, 1, 2}, {5, 3, 1}, {5, 4, 4}, {5, 2, 9}} {
			a := of(t, was, now)
			leaves(t, a, 5, now.in)
			comesAt(t, a, 5, now.in)
			if now.each == 0 {
				runsNot(t, a, 5)
				silent(t, a, 20)
				continue
			}
			for range 4 {
				comesAt(t, a, 5, now.each)
			}
		}
	}
}

// P19.2: at the tick ahead of that at which it would have come it is started anew, and does not come then.
func TestStartAgainJustAhead(t *testing.T) {
	for _, each := range []int64{0, 1, 3} {
		a := of(t, set{1, 3, each}, set{2, 3, 0})
		silent(t, a, 2)
		starts(t, a, 1, 2, 0, api.OK)
		comes(t, a, 2)
		comes(t, a, 1)
		silent(t, a, 5)
	}
	a := of(t, set{1, 2, 2})
	for range 9 { // put off again and again, it never comes
		comes(t, a)
		starts(t, a, 1, 2, 2, api.OK)
	}
	comes(t, a)
	comes(t, a, 1)
}

// P19.2, P19.3: who is started anew for the tick at which it would have come stands behind all others that come then, as if it had not run.
func TestStartAgainIsTheLast(t *testing.T) {
	these := []set{{4, 3, 0}, {9, 3, 0}, {1, 3, 0}, {6, 3, 0}}
	for place, one := range these {
		for _, behind := range []int64{0, 1, 2} {
			a := of(t, these...)
			silent(t, a, int(behind))
			starts(t, a, one.id, 3-behind, 0, api.OK)
			silent(t, a, int(2-behind))
			want := []int{4, 9, 1, 6}
			comes(t, a, append(slices.Delete(want, place, place+1), one.id)...)
			silent(t, a, 5)
		}
	}
}

// P19.2: whichever of those that come at one tick is started for another one, the others come as they would have.
func TestStartAgainChangesNoOther(t *testing.T) {
	these := []set{{4, 3, 0}, {9, 3, 2}, {1, 3, 0}, {6, 3, 5}}
	for place, one := range these {
		for _, in := range []int64{1, 2, 4, 50} { // at none of these ticks another one comes
			a := of(t, these...)
			starts(t, a, one.id, in, 0, api.OK)
			rest := of(t, slices.Delete(slices.Clone(these), place, place+1)...)
			for tick := int64(1); tick <= 60; tick++ {
				want := rest.Tick()
				if tick == in {
					want = append(want, one.id)
				}
				comes(t, a, want...)
			}
		}
	}
}

// P19.2: who is stopped does not run: it comes no more, and may be started by other numbers.
func TestStop(t *testing.T) {
	for _, id := range ids() {
		for _, each := range []int64{0, 1, 2, 1 << 30} {
			for _, in := range []int64{1, 2, 5, 1 << 30} {
				a := of(t, set{id, in, each})
				stops(t, a, id, api.OK)
				runsNot(t, a, id)
				silent(t, a, 8)
				runsNot(t, a, id)
				starts(t, a, id, 2, 0, api.OK)
				comesAt(t, a, id, 2)
				silent(t, a, 8)
			}
		}
	}
}

// P19.2: who comes again and again is stopped ahead of its first tick, behind it, and behind many, between two of its ticks or at one.
func TestStopAtEachTick(t *testing.T) {
	for behind := range int64(20) {
		a := of(t, set{1, 4, 3}, set{2, 1, 1})
		for tick := int64(1); tick <= 40; tick++ {
			if tick-1 == behind {
				stops(t, a, 1, api.OK)
				runsNot(t, a, 1)
			}
			if tick <= behind && tick >= 4 && (tick-4)%3 == 0 {
				comes(t, a, 1, 2) // 2 came at the tick ahead, 1 was started or came ahead of that
			} else {
				comes(t, a, 2)
			}
		}
		runsNot(t, a, 1)
	}
}

// P19.2: who came once, was stopped, or never ran is not stopped: nothing is changed.
func TestStopErrState(t *testing.T) {
	a := busy(t)
	for range 2 {
		for _, id := range append(belowZero(), 4, 5, 8, 9, 255, 1<<32, 1<<32+1, 1<<62+3, math.MaxInt) {
			runsNot(t, a, id)
		}
	}
	same(t, a, busy(t))

	a = of(t, set{1, 1, 0}, set{2, 2, 0})
	comes(t, a, 1)
	runsNot(t, a, 1)
	stops(t, a, 2, api.OK)
	stops(t, a, 2, api.ErrState)
	stops(t, a, 2, api.ErrState)
	silent(t, a, 3)
}

// P19.2: whichever is stopped, at whichever tick, all others come as they would have.
func TestStopChangesNoOther(t *testing.T) {
	these := []set{{4, 2, 0}, {3, 5, 5}, {0, 5, 0}, {2, 5, 2}, {6, 6, 0}, {1, 9, 1}}
	for place, gone := range these {
		for at := range 10 {
			a, rest := of(t, these...), of(t, slices.Delete(slices.Clone(these), place, place+1)...)
			for tick := range 30 {
				if tick == at {
					a.Stop(gone.id) // one that comes once may have come already
				}
				got := a.Tick()
				if tick < at {
					got = slices.DeleteFunc(got, func(id int) bool { return id == gone.id })
				}
				if want := rest.Tick(); !slices.Equal(got, want) {
					t.Fatalf("%d stopped at %d: tick %d = %v, want %v", gone.id, at, tick+1, got, want)
				}
			}
		}
	}
}

// P19.3: none, one, and several come, by when they were started, whatever their ids and however far away they were then.
func TestTick(t *testing.T) {
	a := New()
	comes(t, a)
	for _, one := range []set{{5, 2, 0}, {3, 4, 0}, {4, 4, 0}, {2, 4, 0}, {1, 5, 0}} {
		starts(t, a, one.id, one.in, one.each, api.OK)
	}
	comes(t, a)
	starts(t, a, 0, 3, 0, api.OK)
	starts(t, a, 8, 4, 0, api.OK)
	comes(t, a, 5)
	starts(t, a, 5, 2, 0, api.OK)
	comes(t, a)
	starts(t, a, 9, 1, 0, api.OK)
	comes(t, a, 3, 4, 2, 0, 5, 9)
	comes(t, a, 1, 8)
	silent(t, a, 9)
}

// P19.3: a hundred at one tick come as they were started, with others that come at each tick.
func TestTickOfMany(t *testing.T) {
	a := New()
	starts(t, a, 1000, 1, 1, api.OK)
	var want []int
	for i := range 100 {
		id := i * 37 % 101
		starts(t, a, id, 50, 0, api.OK)
		want = append(want, id)
	}
	for range 49 {
		comes(t, a, 1000)
	}
	comes(t, a, append(want, 1000)...) // it came at the tick ahead, the others were started ahead of that
	comes(t, a, 1000)
}

// P19.3: who comes again and again has a new place each time: behind who was started ahead of its last coming, ahead of who was started since.
func TestTickByTheLastComing(t *testing.T) {
	a := of(t, set{1, 2, 2}, set{2, 4, 0}, set{3, 4, 0})
	comes(t, a)
	starts(t, a, 4, 3, 0, api.OK)
	comes(t, a, 1)
	starts(t, a, 5, 2, 0, api.OK)
	comes(t, a)
	starts(t, a, 6, 1, 0, api.OK)
	comes(t, a, 2, 3, 4, 1, 5, 6)
	comes(t, a)
	comes(t, a, 1)
}

// P19.3: of those that come again at one tick, those first that came ahead the last time, be it at one tick or at two.
func TestTickKeepsTheOrder(t *testing.T) {
	a := of(t, set{9, 3, 3}, set{2, 3, 3}, set{7, 3, 0}, set{5, 3, 3})
	silent(t, a, 2)
	comes(t, a, 9, 2, 7, 5)
	for range 20 {
		silent(t, a, 2)
		comes(t, a, 9, 2, 5)
	}

	a = of(t, set{1, 2, 4}, set{2, 4, 2}, set{3, 1, 5})
	comes(t, a, 3)
	comes(t, a, 1)
	comes(t, a)
	comes(t, a, 2)
	comes(t, a)
	comes(t, a, 3, 1, 2) // they came at 1, at 2 and at 4
	silent(t, a, 1)
	comes(t, a, 2)
	silent(t, a, 1)
	comes(t, a, 1, 2)
	comes(t, a, 3)
}

// P19.3: with each at 1 it comes at each tick, several as they came.
func TestTickEach1(t *testing.T) {
	a := of(t, set{3, 2, 1}, set{8, 1, 1}, set{5, 1, 1})
	comes(t, a, 8, 5)
	for range 50 {
		comes(t, a, 3, 8, 5)
		leaves(t, a, 3, 1)
	}
	starts(t, a, 4, 1, 0, api.OK)
	comes(t, a, 3, 8, 5, 4)
	comes(t, a, 3, 8, 5)
	stops(t, a, 8, api.OK)
	comes(t, a, 3, 5)
	starts(t, a, 3, 1, 1, api.OK)
	comes(t, a, 5, 3)
	comes(t, a, 5, 3)
}

// P19.3: who comes once runs no more, and may be started again, as often as one likes.
func TestTickOnce(t *testing.T) {
	a := of(t, set{1, 1, 0}, set{2, 5, 5})
	comes(t, a, 1)
	runsNot(t, a, 1)
	silent(t, a, 3)
	comes(t, a, 2)
	for range 5 {
		starts(t, a, 1, 2, 0, api.OK)
		leaves(t, a, 1, 2)
		silent(t, a, 1)
		comes(t, a, 1)
		runsNot(t, a, 1)
		silent(t, a, 2)
		comes(t, a, 2)
	}
}

// P19.3: who came once runs by nothing of what it was when it is started again and again, and the other way round.
func TestOnceThenAgain(t *testing.T) {
	a := of(t, set{1, 1, 0})
	comes(t, a, 1)
	starts(t, a, 1, 2, 3, api.OK)
	comesAt(t, a, 1, 2)
	comesAt(t, a, 1, 3)
	comesAt(t, a, 1, 3)
	stops(t, a, 1, api.OK)
	starts(t, a, 1, 1, 0, api.OK)
	comes(t, a, 1)
	runsNot(t, a, 1)
	silent(t, a, 9)
}

// P19.2, P19.3: in and each unlike, for many rounds: at in, and at each that is as many further, and at no other tick.
func TestTickForManyRounds(t *testing.T) {
	for _, in := range []int64{1, 2, 3, 7, 10, 100} {
		for _, each := range []int64{1, 2, 3, 7, 10, 100} {
			a := of(t, set{5, in, each})
			for tick := int64(1); tick <= in+20*each; tick++ {
				leaves(t, a, 5, toNext(tick-1, in, each))
				if tick >= in && (tick-in)%each == 0 {
					comes(t, a, 5)
				} else {
					comes(t, a)
				}
			}
		}
	}
}

// toNext is how many ticks away one comes that came in the first place at in, when so many went by.
func toNext(gone, in, each int64) int64 {
	if gone < in {
		return in - gone
	}
	return each - (gone-in)%each
}

// P19.4: a tick less at each one, until it comes; 0 behind that, or as many as it comes further. Asking changes nothing.
func TestLeft(t *testing.T) {
	a := of(t, set{1, 10, 0}, set{2, 10, 4})
	for gone := range int64(10) {
		for range 2 {
			leaves(t, a, 1, 10-gone)
			leaves(t, a, 2, 10-gone)
			leaves(t, a, 3, 0)
		}
		if gone == 9 {
			comes(t, a, 1, 2)
		} else {
			comes(t, a)
		}
	}
	for _, left := range []int64{4, 3, 2, 1, 4, 3, 2, 1, 4} {
		leaves(t, a, 1, 0)
		leaves(t, a, 2, left)
		a.Tick()
	}
	stops(t, a, 2, api.OK)
	leaves(t, a, 2, 0)
}

// P19.4: of one that runs, whatever becomes of the others meanwhile.
func TestLeftHangsOnNoOther(t *testing.T) {
	a := of(t, set{1, 30, 0})
	for gone := range int64(29) {
		leaves(t, a, 1, 30-gone)
		starts(t, a, int(gone%4)+2, gone%5+1, gone%3, api.OK)
		a.Stop(int(gone%3) + 2)
		leaves(t, a, 1, 30-gone)
		a.Tick()
	}
	leaves(t, a, 1, 1)
}

// P19.4: 0 of those that never ran, that came once, that were stopped, or whose id is below 0.
func TestLeftOfThoseThatRunNot(t *testing.T) {
	a := busy(t)
	for _, id := range append(belowZero(), 4, 5, 8, 255, 256, 257, 1<<32, 1<<32+1, 1<<62+3, math.MaxInt) {
		leaves(t, a, id, 0)
	}
	for id, want := range []int64{2, 2, 1, 2, 0, 0, 1<<30 - 2, 7} {
		leaves(t, a, id, want)
	}
	same(t, a, busy(t))
}

// P19.2, P19.4: MaxWait away, as far as it can be seen: a tick less at each one, and behind the others.
func TestFarAway(t *testing.T) {
	a := of(t, set{1, 1 << 30, 0}, set{2, 1, 1 << 30}, set{3, 100, 1<<30 - 1})
	comes(t, a, 2)
	leaves(t, a, 2, 1<<30)
	for gone := int64(2); gone < 100; gone++ {
		comes(t, a)
		leaves(t, a, 1, 1<<30-gone)
		leaves(t, a, 2, 1<<30+1-gone)
	}
	comes(t, a, 3)
	leaves(t, a, 3, 1<<30-1)
	silent(t, a, 100000)
	leaves(t, a, 1, 1<<30-100100)
	leaves(t, a, 2, 1<<30-100099)
	leaves(t, a, 3, 1<<30-100001)
}

// spoil overwrites a list, its spare room too.
func spoil(list []int) {
	list = list[:cap(list)]
	for i := range list {
		list[i] = -99
	}
}

// R4: what Tick answers is memory of its own, spare room too: neither the alarms nor another answer changes with it.
func TestTickIsNewMemory(t *testing.T) {
	a := of(t, set{1, 1, 1}, set{2, 1, 1}, set{3, 1, 0}, set{4, 2, 2}, set{5, 2, 0}, set{6, 1, 1})
	first := a.Tick()
	kept := slices.Clone(first)
	second := a.Tick()
	spoil(second)
	starts(t, a, 7, 1, 0, api.OK)
	if !slices.Equal(first, kept) || !slices.Equal(kept, []int{1, 2, 3, 6}) {
		t.Fatalf("the first answer is %v", first)
	}
	spoil(first)
	comes(t, a, 1, 2, 6, 7)
	third := a.Tick()
	spoil(append(third[:0], third...))
	comes(t, a, 1, 2, 6)
	for _, id := range []int{1, 2, 6} {
		leaves(t, a, id, 1)
	}
	leaves(t, a, 4, 1)
}

// R2, R3: alarms that are not there, or that no call made, answer ErrNil ahead of all else, and do nothing.
func TestNotThere(t *testing.T) {
	for _, a := range []*Alarms{nil, {}} {
		for range 2 {
			for _, id := range append(ids(), belowZero()...) {
				for _, in := range append(noTicks(), 0, 1, 2, 1<<30) {
					for _, each := range []int64{0, 1, 1 << 30, -1, 1<<30 + 1} {
						starts(t, a, id, in, each, api.ErrNil)
					}
				}
				stops(t, a, id, api.ErrNil)
				leaves(t, a, id, 0)
			}
			silent(t, a, 3)
		}
	}
}

// R5: two of them have nothing in common.
func TestTwoShareNothing(t *testing.T) {
	one, other := New(), New()
	starts(t, one, 1, 2, 2, api.OK)
	runsNot(t, other, 1)
	silent(t, other, 5)
	leaves(t, one, 1, 2)
	starts(t, other, 1, 3, 0, api.OK)
	starts(t, other, 2, 1, 1, api.OK)
	comes(t, one)
	leaves(t, other, 1, 3)
	comes(t, one, 1)
	runsNot(t, one, 2)
	comes(t, other, 2)
	stops(t, other, 2, api.OK)
	leaves(t, one, 1, 2)
	comes(t, other)
	comes(t, other, 1)
	runsNot(t, other, 1)
	comes(t, one)
	comes(t, one, 1)
	runsNot(t, New(), 1)
}

// draw are numbers that follow each other by a rule, the same ones each time.
type draw struct{ seed uint32 }

func (d *draw) below(most int) int {
	d.seed = d.seed*1664525 + 1013904223
	return int(d.seed>>8) % most
}

// step does one call, most often one that may be, with the ids below most, and numbers up to longest.
func (b both) step(t *testing.T, d *draw, most, longest int) {
	t.Helper()
	id := d.below(most)
	in, each := int64(d.below(longest)+1), int64(d.below(longest+1))
	switch d.below(12) {
	case 0, 1, 2:
		b.start(t, id, in, each)
	case 3, 4:
		b.start(t, id, in, 0)
	case 5, 6:
		b.stop(t, id)
	case 7:
		b.start(t, id-most/2, in-int64(longest/2), each-int64(longest/2))
		b.stop(t, -id)
	default:
		b.tick(t)
	}
}

// All promises: long runs of calls answer as a plain reading does.
func TestLongRunsAgainstAPlainReading(t *testing.T) {
	d := &draw{1}
	for _, most := range []int{1, 2, 4, 10, 40} {
		known := make([]int, most+2)
		for i := range known {
			known[i] = i - 1
		}
		for _, longest := range []int{1, 2, 3, 5, 12, 60, 1 << 20} {
			b := newBoth()
			for range 2000 {
				b.step(t, d, most, longest)
				b.left(t, known...)
			}
		}
	}
}

// All promises: each run of four calls with three alarms, and the ticks behind it, answer as a plain reading does.
func TestEachShortRun(t *testing.T) {
	var calls []func(b both)
	for id := range 3 {
		for _, one := range []set{{id, 1, 0}, {id, 1, 1}, {id, 1, 2}, {id, 2, 0}, {id, 2, 1}} {
			calls = append(calls, func(b both) { b.start(t, one.id, one.in, one.each) })
		}
		calls = append(calls, func(b both) { b.stop(t, id) })
	}
	calls = append(calls, func(b both) { b.tick(t) })
	many := len(calls)
	for run := range many * many * many * many {
		b := newBoth()
		for range 4 {
			calls[run%many](b)
			run /= many
		}
		for range 5 {
			b.left(t, 0, 1, 2)
			b.tick(t)
		}
	}
}

// The chapter's examples.
func TestExamples(t *testing.T) {
	a := New()
	starts(t, a, 1, 2, 0, api.OK)
	starts(t, a, 2, 1, 1, api.OK)
	comes(t, a, 2)
	comes(t, a, 1, 2)
	comes(t, a, 2)

	leaves(t, a, 1, 0)
	leaves(t, a, 2, 1)
	stops(t, a, 1, api.ErrState)
	stops(t, a, 2, api.OK)
	comes(t, a)
}
