package objects

import (
	"math"
	"slices"
	"testing"

	"timekeeper/api"
)

// kinds are all kinds of things.
func kinds() []api.Kind {
	return []api.Kind{api.KiCount, api.KiLock, api.KiRow, api.KiFlags, api.KiPool, api.KiAlarm}
}

// edges are numbers at the bounds of the section 'Words', just within and just beyond them, and ones that are equal to some of them in fewer bits, or with a sign.
func edges() []uint32 {
	return []uint32{
		0, 1, 2, 3, 7, 62, 63, 64, 65, 66, 127, 128, 129, 254, 255, 256, 257, 258, 320, 511, 512, 513, 65535, 65536, 65537, 65600,
		1<<30 - 1, 1 << 30, 1<<30 + 1, 1<<31 - 1, 1 << 31, 1<<31 + 1, 1<<31 + 64, math.MaxUint32 - 63, math.MaxUint32 - 1, math.MaxUint32,
	}
}

// somebodies are handles, some of which are equal in fewer bits.
func somebodies() []uint32 {
	return []uint32{1, 2, 9, 255, 256, 257, 265, 512, 65536, 65537, math.MaxInt32, 1 << 31, 1<<31 + 1, 1<<31 + 9, math.MaxUint32 - 1, math.MaxUint32}
}

// draw is one number after another, the same ones at each run.
type draw uint64

func (d *draw) below(many int) int {
	*d = *d*6364136223846793005 + 1442695040888963407
	return int(uint64(*d)>>33) % many
}

func (d *draw) of(numbers []uint32) uint32 { return numbers[d.below(len(numbers))] }

func of(kind api.Kind, a, b uint32) api.Make { return api.Make{Kind: kind, A: a, B: b} }

func made(t *testing.T, kind api.Kind, a, b uint32) *Thing {
	t.Helper()
	x, e := New(of(kind, a, b))
	if e != api.OK || x == nil {
		t.Fatalf("New(%d, %d, %d): %v, error %d", kind, a, b, x, e)
	}
	return x
}

// same is whether two things are seen alike; an empty list and none are.
func same(one, other api.Thing) bool {
	return one.Handle == other.Handle && one.Make == other.Make && one.Count == other.Count && one.Owner == other.Owner &&
		slices.Equal(one.Row, other.Row) && slices.Equal(one.Owners, other.Owners) && one.Left == other.Left && slices.Equal(one.Waits, other.Waits)
}

// isSeen is whether a thing is seen so, and once more.
func isSeen(t *testing.T, x *Thing, want api.Thing) {
	t.Helper()
	for range 2 {
		if got := x.See(); !same(got, want) {
			t.Fatalf("See() = %+v, want %+v", got, want)
		}
	}
}

// ask is what is asked, with numbers at what it does not hang on: what is tried is the same at all of them.
func ask(what api.What, v, m uint32) api.Ask {
	return api.Ask{What: what, H: 0xfffffff7, V: v, M: m, Wait: -5}
}

// tries is whether Try answers so; with an error the number must be 0, and nothing may be turned.
func tries(t *testing.T, x *Thing, who uint32, a api.Ask, n uint32, want api.Errno) {
	t.Helper()
	was := x.See()
	got, e := x.Try(who, a)
	if got != n || e != want {
		t.Fatalf("Try(%d, %+v) = %d, error %d, want %d, error %d; it was %+v", who, a, got, e, n, want, was)
	}
	if is := x.See(); e != api.OK && (got != 0 || !same(is, was)) {
		t.Fatalf("Try(%d, %+v) = %d, error %d, made %+v of %+v", who, a, got, e, is, was)
	}
}

// does is whether what is asked with no number is answered OK and 0.
func does(t *testing.T, x *Thing, who uint32, what api.What) {
	t.Helper()
	tries(t, x, who, ask(what, 77, 99), 0, api.OK)
}

// refuses is whether what is asked with no number is answered this error.
func refuses(t *testing.T, x *Thing, who uint32, what api.What, want api.Errno) {
	t.Helper()
	tries(t, x, who, ask(what, 77, 99), 0, want)
}

func leaves(t *testing.T, x *Thing, who uint32, want bool) {
	t.Helper()
	was := x.See()
	if got := x.Leave(who); got != want {
		t.Fatalf("Leave(%d) = %t, want %t; it was %+v", who, got, want, was)
	}
	if is := x.See(); !want && !same(is, was) {
		t.Fatalf("Leave(%d) = false made %+v of %+v", who, is, was)
	}
}

// used are things of all kinds, as they are made and behind some calls: none, some and all of each is there.
func used(t *testing.T) []*Thing {
	t.Helper()
	list := []*Thing{
		made(t, api.KiCount, 0, 1), made(t, api.KiCount, 1, 2), made(t, api.KiCount, 3, 3), made(t, api.KiCount, api.MaxCount, api.MaxCount),
		made(t, api.KiLock, 0, 0), made(t, api.KiRow, 3, 0), made(t, api.KiFlags, 0, 0), made(t, api.KiFlags, 0x80000005, 0),
		made(t, api.KiFlags, math.MaxUint32, 0), made(t, api.KiPool, 3, 8), made(t, api.KiAlarm, 256, 3),
	}
	locked := made(t, api.KiLock, 0, 0)
	does(t, locked, 9, api.WhLock)
	some, full := made(t, api.KiRow, 3, 0), made(t, api.KiRow, 2, 0)
	for i := range uint32(2) {
		tries(t, some, 9, ask(api.WhPut, 10+i, 0), 0, api.OK)
		tries(t, full, 9, ask(api.WhPush, 20+i, 0), 0, api.OK)
	}
	part, gone := made(t, api.KiPool, 4, 1), made(t, api.KiPool, 3, 256)
	for i, who := range []uint32{9, 8, 9} {
		tries(t, part, who, ask(api.WhAlloc, 0, 0), uint32(i), api.OK)
		tries(t, gone, who, ask(api.WhAlloc, 0, 0), uint32(i), api.OK)
	}
	return append(list, locked, some, full, part, gone)
}

// P18.1: the bounds of each kind, as the section 'Words' tells them.
func TestNewAtItsBounds(t *testing.T) {
	for _, c := range []struct {
		make api.Make
		may  bool
	}{
		{of(api.KiNone, 0, 0), false}, {of(api.KiNone, 1, 1), false}, {of(api.KiNone, 0, 1), false}, {of(api.KiNone, 1, 0), false},
		{of(7, 0, 0), false}, {of(7, 1, 0), false}, {of(7, 1, 1), false}, {of(255, 1, 1), false},
		{of(api.KiCount, 0, 0), false}, {of(api.KiCount, 0, 1), true}, {of(api.KiCount, 1, 1), true}, {of(api.KiCount, 2, 1), false}, {of(api.KiCount, 1, 0), false},
		{of(api.KiCount, 5, 5), true}, {of(api.KiCount, 4, 5), true}, {of(api.KiCount, 6, 5), false},
		{of(api.KiCount, 0, 1073741824), true}, {of(api.KiCount, 1073741824, 1073741824), true}, {of(api.KiCount, 0, 1073741823), true},
		{of(api.KiCount, 1073741824, 1073741823), false}, {of(api.KiCount, 0, 1073741825), false}, {of(api.KiCount, 1073741825, 1073741825), false},
		{of(api.KiCount, 0, math.MaxUint32), false}, {of(api.KiCount, math.MaxUint32, 1), false}, {of(api.KiCount, 1<<31, 1), false}, {of(api.KiCount, 0, 1<<31), false},
		{of(api.KiLock, 0, 0), true}, {of(api.KiLock, 1, 0), false}, {of(api.KiLock, 0, 1), false}, {of(api.KiLock, 1, 1), false}, {of(api.KiLock, 1<<31, 0), false}, {of(api.KiLock, 0, 256), false},
		{of(api.KiRow, 0, 0), false}, {of(api.KiRow, 1, 0), true}, {of(api.KiRow, 2, 0), true}, {of(api.KiRow, 63, 0), true}, {of(api.KiRow, 64, 0), true}, {of(api.KiRow, 65, 0), false},
		{of(api.KiRow, 1, 1), false}, {of(api.KiRow, 64, 1), false}, {of(api.KiRow, 1, 256), false}, {of(api.KiRow, math.MaxUint32, 0), false}, {of(api.KiRow, 65537, 0), false}, {of(api.KiRow, 257, 0), false},
		{of(api.KiFlags, 0, 0), true}, {of(api.KiFlags, 1, 0), true}, {of(api.KiFlags, math.MaxUint32, 0), true}, {of(api.KiFlags, 0, 1), false}, {of(api.KiFlags, 1, math.MaxUint32), false},
		{of(api.KiPool, 0, 0), false}, {of(api.KiPool, 0, 1), false}, {of(api.KiPool, 1, 0), false}, {of(api.KiPool, 1, 1), true}, {of(api.KiPool, 64, 256), true}, {of(api.KiPool, 63, 255), true},
		{of(api.KiPool, 65, 1), false}, {of(api.KiPool, 1, 257), false}, {of(api.KiPool, 65, 257), false}, {of(api.KiPool, 64, 257), false}, {of(api.KiPool, 65, 256), false},
		{of(api.KiPool, math.MaxUint32, 1), false}, {of(api.KiPool, 1, math.MaxUint32), false}, {of(api.KiPool, 257, 1), false}, {of(api.KiPool, 1, 65537), false},
		{of(api.KiAlarm, 0, 0), false}, {of(api.KiAlarm, 0, 1), false}, {of(api.KiAlarm, 1, 0), true}, {of(api.KiAlarm, 1, 1), true}, {of(api.KiAlarm, math.MaxUint32, math.MaxUint32), true}, {of(api.KiAlarm, 256, 0), true},
	} {
		x, e := New(c.make)
		if c.may != (e == api.OK) || c.may != (x != nil) || !c.may && e != api.ErrArg {
			t.Errorf("New(%+v): %v, error %d, want it to be: %t", c.make, x, e, c.may)
		}
	}
	if api.MaxCount != 1073741824 || api.MaxRow != 64 || api.MaxBlocks != 64 || api.MaxBlock != 256 {
		t.Error("the limits are others")
	}
}

// P18.1, P18.4: at all kinds, and numbers that are none, and at all edges, a thing that is seen as it was made, or ErrArg and none.
func TestNewAtAllEdges(t *testing.T) {
	for kind := range 256 {
		for _, a := range edges() {
			for _, b := range edges() {
				m := of(api.Kind(kind), a, b)
				x, e := New(m)
				if !mayBe(m) {
					if x != nil || e != api.ErrArg {
						t.Fatalf("New(%+v): %v, error %d, want ErrArg", m, x, e)
					}
					continue
				}
				if x == nil || e != api.OK {
					t.Fatalf("New(%+v): %v, error %d, want OK", m, x, e)
				}
				isSeen(t, x, plainOf(m).see())
			}
		}
	}
}

// P18.1, P18.4: what there is to see of each new thing.
func TestNewIsSeen(t *testing.T) {
	for _, want := range []api.Thing{
		{Make: of(api.KiCount, 0, 1)},
		{Make: of(api.KiCount, 3, 7), Count: 3},
		{Make: of(api.KiCount, api.MaxCount, api.MaxCount), Count: 1073741824},
		{Make: of(api.KiLock, 0, 0)},
		{Make: of(api.KiRow, 64, 0)},
		{Make: of(api.KiFlags, 0, 0)},
		{Make: of(api.KiFlags, 0x80000001, 0), Count: 0x80000001},
		{Make: of(api.KiFlags, math.MaxUint32, 0), Count: math.MaxUint32},
		{Make: of(api.KiPool, 3, 8), Count: 3, Owners: []uint32{0, 0, 0}},
		{Make: of(api.KiPool, 64, 256), Count: 64, Owners: make([]uint32, 64)},
		{Make: of(api.KiAlarm, 257, 5)},
		{Make: of(api.KiAlarm, math.MaxUint32, 0)},
	} {
		isSeen(t, made(t, want.Make.Kind, want.Make.A, want.Make.B), want)
	}
}

// P18.2: who 0 may ask nothing, of no kind; not even what could not be done now, or not with that number.
func TestTryByNobody(t *testing.T) {
	for _, x := range used(t) {
		for what := range 256 {
			for _, n := range []uint32{0, 1, 2, 3, 4, 64, math.MaxUint32} {
				tries(t, x, 0, ask(api.What(what), n, n), 0, api.ErrArg)
			}
		}
	}
}

// P18.2: what does not fit the kind is ErrArg, whatever else is told, and turns nothing; what fits is not. Of an alarm all of it is.
func TestTryWhatDoesNotFit(t *testing.T) {
	for _, kind := range kinds() {
		for what := range 256 {
			fits := slices.Contains(asked(kind), api.What(what))
			for i, x := range used(t) {
				if x.See().Make.Kind != kind {
					continue
				}
				for _, who := range []uint32{1, 8, 9, math.MaxUint32} {
					a := ask(api.What(what), 0, 0)
					if !fits {
						tries(t, x, who, a, 0, api.ErrArg)
					} else if n, e := x.Try(who, a); e == api.ErrArg {
						t.Errorf("thing %d of kind %d: Try(%d, what %d) = %d, ErrArg", i, kind, who, what, n)
					}
				}
			}
		}
	}
}

// P18.2: of an alarm nothing may be tried, what is asked of alarms neither.
func TestTryOfAnAlarm(t *testing.T) {
	x := made(t, api.KiAlarm, 256, 3)
	for _, what := range []api.What{api.WhStart, api.WhStop} {
		for _, who := range somebodies() {
			for _, n := range edges() {
				tries(t, x, who, api.Ask{What: what, V: n, M: 1, Wait: 1}, 0, api.ErrArg)
			}
		}
	}
	isSeen(t, x, api.Thing{Make: of(api.KiAlarm, 256, 3)})
}

// P18.2: M of WhAwait is 0 to 3, whether or not the flags hold; of the others M tells nothing.
func TestTryAwaitAbove3(t *testing.T) {
	for _, up := range []uint32{0, 4, 7, math.MaxUint32} {
		for _, want := range []uint32{0, 4, 7, math.MaxUint32} {
			x := made(t, api.KiFlags, up, 0)
			for _, m := range []uint32{4, 5, 6, 7, 8, 16, 255, 256, 257, 258, 259, 65536, 65537, 1<<31 - 1, 1 << 31, 1<<31 + 1, 1<<31 + 3, math.MaxUint32 - 3, math.MaxUint32} {
				tries(t, x, 9, ask(api.WhAwait, want, m), 0, api.ErrArg)
			}
			isSeen(t, x, api.Thing{Make: of(api.KiFlags, up, 0), Count: up})
		}
	}
	for _, m := range edges() {
		x := made(t, api.KiFlags, 4, 0)
		tries(t, x, 9, ask(api.WhRaise, 3, m), 7, api.OK)
		tries(t, x, 9, ask(api.WhLower, 4, m), 3, api.OK)
	}
}

// P18.2: H, Wait, and the numbers that a call does not name tell nothing.
func TestTryHangsOnNothingElse(t *testing.T) {
	for _, kind := range kinds() {
		for _, what := range asked(kind) {
			for i, one := range used(t) {
				if one.See().Make.Kind != kind {
					continue
				}
				n, e := one.Try(9, api.Ask{What: what})
				for _, h := range []uint32{0, 9, math.MaxUint32} {
					for _, wait := range []int64{math.MinInt64, -1, 0, 1, api.MaxWait, api.MaxWait + 1, math.MaxInt64} {
						other := used(t)[i]
						if m, f := other.Try(9, api.Ask{What: what, H: h, Wait: wait}); m != n || f != e || !same(one.See(), other.See()) {
							t.Fatalf("thing %d: Try(9, what %d, H %d, Wait %d) = %d, error %d, want %d, error %d", i, what, h, wait, m, f, n, e)
						}
					}
				}
			}
		}
	}
}

// P18.2: one less until there is none, one more until there are B; who asks is all the same.
func TestTakeAndGive(t *testing.T) {
	for _, most := range []uint32{1, 2, 3, 64, 257} {
		for _, first := range []uint32{0, 1, most / 2, most - 1, most} {
			x := made(t, api.KiCount, first, most)
			want := api.Thing{Make: of(api.KiCount, first, most)}
			for many := first; many > 0; many-- {
				does(t, x, somebodies()[many%16], api.WhTake)
				want.Count = many - 1
				isSeen(t, x, want)
			}
			for _, who := range somebodies() {
				refuses(t, x, who, api.WhTake, api.ErrState)
			}
			for many := range most {
				does(t, x, somebodies()[many%16], api.WhGive)
				want.Count = many + 1
				isSeen(t, x, want)
			}
			for _, who := range somebodies() {
				refuses(t, x, who, api.WhGive, api.ErrFull)
			}
			does(t, x, 9, api.WhTake)
			does(t, x, 9, api.WhGive)
			refuses(t, x, 9, api.WhGive, api.ErrFull)
		}
	}
}

// P18.2, P18.5: the greatest semaphore is full at MaxCount, too.
func TestGiveUpToMaxCount(t *testing.T) {
	x := made(t, api.KiCount, api.MaxCount-2, api.MaxCount)
	for many := uint32(1073741822); many < 1073741824; many++ {
		does(t, x, 9, api.WhGive)
		isSeen(t, x, api.Thing{Make: of(api.KiCount, api.MaxCount-2, api.MaxCount), Count: many + 1})
	}
	for range 3 {
		refuses(t, x, 9, api.WhGive, api.ErrFull)
	}
	does(t, x, 9, api.WhTake)
	isSeen(t, x, api.Thing{Make: of(api.KiCount, api.MaxCount-2, api.MaxCount), Count: 1073741823})
}

// P18.2: who has a mutex does not get it again, others not yet; who does not have it does not give it back.
func TestLockAndUnlock(t *testing.T) {
	free := api.Thing{Make: of(api.KiLock, 0, 0)}
	for _, who := range somebodies() {
		x := made(t, api.KiLock, 0, 0)
		taken := api.Thing{Make: free.Make, Owner: who}
		for range 2 {
			for _, other := range somebodies() {
				refuses(t, x, other, api.WhUnlock, api.ErrOwner)
			}
			isSeen(t, x, free)
			does(t, x, who, api.WhLock)
			isSeen(t, x, taken)
			for _, other := range somebodies() {
				if other == who {
					refuses(t, x, who, api.WhLock, api.ErrOwner)
				} else {
					refuses(t, x, other, api.WhLock, api.ErrState)
					refuses(t, x, other, api.WhUnlock, api.ErrOwner)
				}
			}
			isSeen(t, x, taken)
			does(t, x, who, api.WhUnlock)
			isSeen(t, x, free)
		}
		for _, other := range somebodies() {
			does(t, x, other, api.WhLock)
			does(t, x, other, api.WhUnlock)
		}
	}
}

// P18.2: nothing is got of an empty queue, nothing is put into a full one: not yet. Only who peeks is told ErrEmpty.
func TestEmptyAndFullQueues(t *testing.T) {
	for most := uint32(1); most <= 64; most++ {
		x := made(t, api.KiRow, most, 0)
		want := api.Thing{Make: of(api.KiRow, most, 0)}
		refuses(t, x, 9, api.WhGet, api.ErrState)
		refuses(t, x, 9, api.WhPeek, api.ErrEmpty)
		for many := range most {
			what := api.WhPut
			want.Row = append(want.Row, 100+many)
			if many%3 == 1 {
				what, want.Row = api.WhPush, slices.Concat([]uint32{100 + many}, want.Row[:many])
			}
			tries(t, x, 9, ask(what, 100+many, 5), 0, api.OK)
			isSeen(t, x, want)
			tries(t, x, 8, ask(api.WhPeek, 1, 5), want.Row[0], api.OK)
			isSeen(t, x, want)
		}
		for _, v := range edges() {
			tries(t, x, 9, ask(api.WhPut, v, 0), 0, api.ErrState)
			tries(t, x, 9, ask(api.WhPush, v, 0), 0, api.ErrState)
		}
		isSeen(t, x, want)
		for len(want.Row) > 0 {
			tries(t, x, 7, ask(api.WhGet, 1, 5), want.Row[0], api.OK)
			want.Row = want.Row[1:]
			isSeen(t, x, want)
		}
		refuses(t, x, 9, api.WhGet, api.ErrState)
		refuses(t, x, 9, api.WhPeek, api.ErrEmpty)
	}
}

// P18.2: any number is a message; what is put is the last one, what is pushed the first one.
func TestMessages(t *testing.T) {
	x := made(t, api.KiRow, 3, 0)
	for _, v := range edges() {
		tries(t, x, 9, ask(api.WhPut, v, 0), 0, api.OK)
		tries(t, x, 9, ask(api.WhPut, v+1, 0), 0, api.OK)
		tries(t, x, 9, ask(api.WhPush, v-1, 0), 0, api.OK)
		isSeen(t, x, api.Thing{Make: of(api.KiRow, 3, 0), Row: []uint32{v - 1, v, v + 1}})
		for _, want := range []uint32{v - 1, v, v + 1} {
			tries(t, x, 8, ask(api.WhPeek, 0, 0), want, api.OK)
			tries(t, x, 8, ask(api.WhGet, 0, 0), want, api.OK)
		}
		isSeen(t, x, api.Thing{Make: of(api.KiRow, 3, 0)})
	}
}

// P18.2: more messages than a queue has room for go through it in their order.
func TestManyMessages(t *testing.T) {
	for _, most := range []uint32{1, 2, 3, 63, 64} {
		x := made(t, api.KiRow, most, 0)
		put, got := uint32(0), uint32(0)
		for step := range uint32(500) {
			for put-got < most {
				tries(t, x, 9, ask(api.WhPut, put, 0), 0, api.OK)
				put++
			}
			tries(t, x, 9, ask(api.WhPut, put, 0), 0, api.ErrState)
			for range 1 + step%most {
				tries(t, x, 8, ask(api.WhGet, 0, 0), got, api.OK)
				got++
			}
		}
	}
}

// P18.2: of all and of any, of flags that go and that stay, that hold and that do not, of none.
func TestAwait(t *testing.T) {
	for _, c := range []struct {
		up, want, how uint32
		met           uint32
		e             api.Errno
		after         uint32
	}{
		{12, 4, 0, 4, 0, 12}, {12, 4, 1, 4, 0, 12}, {12, 4, 2, 4, 0, 8}, {12, 4, 3, 4, 0, 8},
		{12, 5, 0, 4, 0, 12}, {12, 5, 1, 0, api.ErrState, 12}, {12, 5, 2, 4, 0, 8}, {12, 5, 3, 0, api.ErrState, 12},
		{12, 12, 0, 12, 0, 12}, {12, 12, 1, 12, 0, 12}, {12, 12, 2, 12, 0, 0}, {12, 12, 3, 12, 0, 0},
		{12, 3, 0, 0, api.ErrState, 12}, {12, 3, 1, 0, api.ErrState, 12}, {12, 3, 2, 0, api.ErrState, 12}, {12, 3, 3, 0, api.ErrState, 12},
		{12, 0, 0, 0, api.ErrState, 12}, {12, 0, 1, 0, 0, 12}, {12, 0, 2, 0, api.ErrState, 12}, {12, 0, 3, 0, 0, 12},
		{0, 0, 0, 0, api.ErrState, 0}, {0, 0, 1, 0, 0, 0}, {0, 0, 2, 0, api.ErrState, 0}, {0, 0, 3, 0, 0, 0},
		{0, 1, 0, 0, api.ErrState, 0}, {0, 1, 1, 0, api.ErrState, 0}, {0, math.MaxUint32, 2, 0, api.ErrState, 0}, {0, math.MaxUint32, 3, 0, api.ErrState, 0},
		{1 << 31, 1 << 31, 3, 1 << 31, 0, 0}, {1<<31 + 1, math.MaxUint32, 2, 1<<31 + 1, 0, 0}, {math.MaxUint32, 1<<31 + 1, 3, 1<<31 + 1, 0, 1<<31 - 2},
		{math.MaxUint32, math.MaxUint32, 1, math.MaxUint32, 0, math.MaxUint32}, {math.MaxUint32, math.MaxUint32, 3, math.MaxUint32, 0, 0},
	} {
		x := made(t, api.KiFlags, c.up, 0)
		tries(t, x, 9, ask(api.WhAwait, c.want, c.how), c.met, c.e)
		isSeen(t, x, api.Thing{Make: of(api.KiFlags, c.up, 0), Count: c.after})
	}
}

// P18.2: the same of all flags and wishes of five bits, at the lowest and at the highest ones.
func TestAwaitAllOfFiveBits(t *testing.T) {
	for _, by := range []int{0, 14, 27} {
		for up := range uint32(32) {
			for want := range uint32(32) {
				for how := range uint32(6) {
					m := of(api.KiFlags, up<<by, 0)
					x, p := made(t, m.Kind, m.A, m.B), plainOf(m)
					n, e := p.try(9, ask(api.WhAwait, want<<by, how))
					tries(t, x, 9, ask(api.WhAwait, want<<by, how), n, e)
					isSeen(t, x, p.see())
				}
			}
		}
	}
}

// P18.2: flags that go go once; raised, they are there again.
func TestAwaitAgain(t *testing.T) {
	x := made(t, api.KiFlags, 6, 0)
	for range 3 {
		tries(t, x, 9, ask(api.WhAwait, 6, 1), 6, api.OK)
		tries(t, x, 9, ask(api.WhAwait, 6, 3), 6, api.OK)
		for how := range uint32(4) {
			tries(t, x, 9, ask(api.WhAwait, 6, how), 0, api.ErrState)
		}
		tries(t, x, 8, ask(api.WhRaise, 2, 0), 2, api.OK)
		tries(t, x, 9, ask(api.WhAwait, 6, 3), 0, api.ErrState)
		tries(t, x, 9, ask(api.WhAwait, 6, 0), 2, api.OK)
		tries(t, x, 8, ask(api.WhRaise, 4, 0), 6, api.OK)
	}
}

// P18.2: flags that are there and that are not, raised and lowered; the answer is all flags.
func TestRaiseAndLower(t *testing.T) {
	for _, c := range []struct{ up, v, raised, lowered uint32 }{
		{0, 0, 0, 0}, {0, 5, 5, 0}, {5, 0, 5, 5}, {5, 5, 5, 0}, {5, 4, 5, 1}, {5, 2, 7, 5}, {5, 6, 7, 1},
		{1 << 31, 1, 1<<31 + 1, 1 << 31}, {1 << 31, 1 << 31, 1 << 31, 0},
		{0, math.MaxUint32, math.MaxUint32, 0}, {math.MaxUint32, 1, math.MaxUint32, math.MaxUint32 - 1}, {math.MaxUint32, math.MaxUint32, math.MaxUint32, 0}, {12, math.MaxUint32, math.MaxUint32, 0},
	} {
		x := made(t, api.KiFlags, c.up, 0)
		for range 2 {
			tries(t, x, 9, ask(api.WhRaise, c.v, 7), c.raised, api.OK)
			isSeen(t, x, api.Thing{Make: of(api.KiFlags, c.up, 0), Count: c.raised})
		}
		x = made(t, api.KiFlags, c.up, 0)
		for range 2 {
			tries(t, x, 9, ask(api.WhLower, c.v, 7), c.lowered, api.OK)
			isSeen(t, x, api.Thing{Make: of(api.KiFlags, c.up, 0), Count: c.lowered})
		}
	}
}

// P18.2, P18.5: the blocks from 0 on, until none is free.
func TestAllocUntilNoneIsFree(t *testing.T) {
	for many := uint32(1); many <= 64; many++ {
		x := made(t, api.KiPool, many, many*4)
		want := api.Thing{Make: of(api.KiPool, many, many*4), Count: many, Owners: make([]uint32, many)}
		for block := range many {
			who := somebodies()[block%16]
			tries(t, x, who, ask(api.WhAlloc, 77, 99), block, api.OK)
			want.Count--
			want.Owners[block] = who
			isSeen(t, x, want)
		}
		for _, who := range somebodies() {
			refuses(t, x, who, api.WhAlloc, api.ErrState)
		}
		isSeen(t, x, want)
	}
}

// P18.2: it is the least block that is free, whichever are.
func TestAllocTheLeast(t *testing.T) {
	for free := range uint32(64) {
		x := made(t, api.KiPool, 6, 1)
		owners := make([]uint32, 6)
		for block := range uint32(6) {
			tries(t, x, 9, ask(api.WhAlloc, 0, 0), block, api.OK)
			owners[block] = 9
		}
		left := uint32(0)
		for block := uint32(5); block < 6; block-- { // the greatest one first: the last one that came back is the least
			if free>>block&1 == 1 {
				tries(t, x, 9, ask(api.WhFree, block, 0), 0, api.OK)
				owners[block] = 0
				left++
			}
		}
		isSeen(t, x, api.Thing{Make: of(api.KiPool, 6, 1), Count: left, Owners: owners})
		for block := range uint32(6) {
			if free>>block&1 == 1 {
				tries(t, x, 8, ask(api.WhAlloc, 0, 0), block, api.OK)
			}
		}
		refuses(t, x, 8, api.WhAlloc, api.ErrState)
	}
}

// P18.2: a block of who's is free; one of somebody else's, or that is free already, is not theirs; a number that is none may not be.
func TestFree(t *testing.T) {
	x := made(t, api.KiPool, 3, 8)
	tries(t, x, 9, ask(api.WhAlloc, 0, 0), 0, api.OK)
	tries(t, x, 8, ask(api.WhAlloc, 0, 0), 1, api.OK)
	for _, who := range []uint32{1, 7, 8, 10, 256 + 9, 65536 + 9, 1<<31 + 9, math.MaxUint32} {
		tries(t, x, who, ask(api.WhFree, 0, 0), 0, api.ErrOwner)
	}
	tries(t, x, 9, ask(api.WhFree, 1, 0), 0, api.ErrOwner)
	for _, who := range somebodies() {
		tries(t, x, who, ask(api.WhFree, 2, 0), 0, api.ErrOwner)
		for _, v := range []uint32{3, 4, 63, 64, 65, 255, 256, 257, 258, 65536, 65537, 1<<31 - 1, 1 << 31, 1<<31 + 1, math.MaxUint32 - 1, math.MaxUint32} {
			tries(t, x, who, ask(api.WhFree, v, 0), 0, api.ErrArg)
		}
	}
	isSeen(t, x, api.Thing{Make: of(api.KiPool, 3, 8), Count: 1, Owners: []uint32{9, 8, 0}})
	tries(t, x, 9, ask(api.WhFree, 0, 0), 0, api.OK)
	isSeen(t, x, api.Thing{Make: of(api.KiPool, 3, 8), Count: 2, Owners: []uint32{0, 8, 0}})
	tries(t, x, 9, ask(api.WhFree, 0, 0), 0, api.ErrOwner)
	tries(t, x, 8, ask(api.WhFree, 1, 0), 0, api.OK)
	isSeen(t, x, api.Thing{Make: of(api.KiPool, 3, 8), Count: 3, Owners: []uint32{0, 0, 0}})
}

// P18.2: the last block of the greatest pool is one, the one behind it is none.
func TestFreeTheLast(t *testing.T) {
	for _, many := range []uint32{1, 2, 63, 64} {
		x := made(t, api.KiPool, many, 256)
		for block := range many {
			tries(t, x, 9, ask(api.WhAlloc, 0, 0), block, api.OK)
		}
		tries(t, x, 9, ask(api.WhFree, many, 0), 0, api.ErrArg)
		tries(t, x, 8, ask(api.WhFree, many-1, 0), 0, api.ErrOwner)
		tries(t, x, 9, ask(api.WhFree, many-1, 0), 0, api.OK)
		tries(t, x, 8, ask(api.WhAlloc, 0, 0), many-1, api.OK)
	}
}

// P18.3: a mutex is let go by who has it, once, and by nobody else.
func TestLeaveAMutex(t *testing.T) {
	for _, who := range somebodies() {
		x := made(t, api.KiLock, 0, 0)
		for range 2 {
			for _, other := range append(somebodies(), 0) {
				leaves(t, x, other, false)
			}
			does(t, x, who, api.WhLock)
			for _, other := range append(somebodies(), 0) {
				if other != who {
					leaves(t, x, other, false)
				}
			}
			isSeen(t, x, api.Thing{Make: of(api.KiLock, 0, 0), Owner: who})
			leaves(t, x, who, true)
			isSeen(t, x, api.Thing{Make: of(api.KiLock, 0, 0)})
			leaves(t, x, who, false)
			refuses(t, x, who, api.WhUnlock, api.ErrOwner)
		}
		does(t, x, 77, api.WhLock)
		leaves(t, x, who, false)
		leaves(t, x, 77, true)
	}
}

// P18.3: all blocks of who's are free then, and no block of anybody else's.
func TestLeaveAPool(t *testing.T) {
	owners := []uint32{9, 8, 9, 265, 9, 1<<31 + 9, 8}
	for _, c := range []struct {
		who    uint32
		count  uint32
		owners []uint32
	}{
		{9, 4, []uint32{0, 8, 0, 265, 0, 1<<31 + 9, 8, 0}},
		{8, 3, []uint32{9, 0, 9, 265, 9, 1<<31 + 9, 0, 0}},
		{265, 2, []uint32{9, 8, 9, 0, 9, 1<<31 + 9, 8, 0}},
		{1<<31 + 9, 2, []uint32{9, 8, 9, 265, 9, 0, 8, 0}},
	} {
		x := made(t, api.KiPool, 8, 2)
		leaves(t, x, c.who, false)
		for block, who := range owners {
			tries(t, x, who, ask(api.WhAlloc, 0, 0), uint32(block), api.OK)
		}
		for _, who := range []uint32{0, 1, 7, 10, 521, 65545, math.MaxUint32} {
			leaves(t, x, who, false)
		}
		leaves(t, x, c.who, true)
		isSeen(t, x, api.Thing{Make: of(api.KiPool, 8, 2), Count: c.count, Owners: c.owners})
		leaves(t, x, c.who, false)
		leaves(t, x, 0, false)
	}
}

// P18.3: of a pool all of whose blocks are who's, one block or many, none is left.
func TestLeaveAWholePool(t *testing.T) {
	for many := uint32(1); many <= 64; many++ {
		x := made(t, api.KiPool, many, 1)
		for block := range many {
			tries(t, x, 9, ask(api.WhAlloc, 0, 0), block, api.OK)
		}
		leaves(t, x, 8, false)
		leaves(t, x, 9, true)
		leaves(t, x, 9, false)
		isSeen(t, x, plainOf(of(api.KiPool, many, 1)).see())
		tries(t, x, 8, ask(api.WhAlloc, 0, 0), 0, api.OK)
	}
}

// P18.3: of the other kinds nobody has anything, whatever they took, put or raised.
func TestLeaveTheOthers(t *testing.T) {
	for _, x := range used(t) {
		kind := x.See().Make.Kind
		if kind == api.KiLock || kind == api.KiPool {
			continue
		}
		for _, what := range asked(kind) {
			x.Try(9, ask(what, 1, 0))
		}
		for _, who := range append(somebodies(), 0, 8, 10, 20, 21, x.See().Count, x.See().Make.A) {
			leaves(t, x, who, false)
			leaves(t, x, who, false)
		}
	}
}

// P18.3: who 0 has nothing of anything, of what is free neither.
func TestLeaveByNobody(t *testing.T) {
	for _, x := range used(t) {
		leaves(t, x, 0, false)
		leaves(t, x, 0, false)
	}
}

// P18.4: what the chapter does not name for a kind is zero.
func TestSeeNothingElse(t *testing.T) {
	for _, x := range used(t) {
		for range 3 {
			s := x.See()
			kind := s.Make.Kind
			if s.Handle != 0 || s.Left != 0 || len(s.Waits) != 0 {
				t.Errorf("kind %d: %+v", kind, s)
			}
			if kind != api.KiCount && kind != api.KiFlags && kind != api.KiPool && s.Count != 0 {
				t.Errorf("kind %d has a count: %+v", kind, s)
			}
			if kind != api.KiLock && s.Owner != 0 || kind != api.KiRow && len(s.Row) != 0 || kind != api.KiPool && len(s.Owners) != 0 {
				t.Errorf("kind %d has what others have: %+v", kind, s)
			}
			for _, what := range asked(kind) {
				x.Try(9, ask(what, 0, 0))
			}
		}
	}
}

// P18.4: Make is what it was made of, however much was taken, given or raised.
func TestSeeKeepsMake(t *testing.T) {
	d := draw(7)
	for _, x := range used(t) {
		was := x.See().Make
		for range 100 {
			for _, what := range asked(was.Kind) {
				x.Try(d.of(somebodies()), ask(what, d.of(edges()), uint32(d.below(4))))
			}
			if got := x.See().Make; got != was {
				t.Fatalf("it was made of %+v, and is seen as made of %+v", was, got)
			}
		}
	}
}

// scribble writes over a list and its spare room.
func scribble(list []uint32) {
	list = list[:cap(list)]
	for i := range list {
		list[i] = 99
	}
}

// P18.4, R4: what See answers is memory of its own, spare room too: it is not another answer's, nor what the thing keeps.
func TestSeeIsNewMemory(t *testing.T) {
	for i, x := range used(t) {
		was := used(t)[i].See()
		one, other := x.See(), x.See()
		scribble(one.Row)
		scribble(one.Owners)
		scribble(one.Waits)
		if !same(other, was) {
			t.Fatalf("another answer was changed to %+v from %+v", other, was)
		}
		isSeen(t, x, was)
		for _, what := range asked(was.Make.Kind) {
			for range 5 {
				x.Try(7, ask(what, 1, 2))
			}
		}
		x.Leave(9)
		x.Leave(7)
		if !same(other, was) {
			t.Fatalf("the thing changed an answer to %+v from %+v", other, was)
		}
	}
}

// R2, R3: of a thing that is not there ErrNil is told, ahead of ErrArg, and else nothing; the calls do nothing: a zero struct is still none behind them.
func TestNotThere(t *testing.T) {
	for _, x := range []*Thing{nil, {}, new(Thing)} {
		for range 2 {
			for what := range 256 {
				for _, who := range append(somebodies(), 0) {
					for _, n := range []uint32{0, 1, 3, 4, math.MaxUint32} {
						if v, e := x.Try(who, ask(api.What(what), n, n)); v != 0 || e != api.ErrNil {
							t.Fatalf("Try(%d, what %d) = %d, error %d, want ErrNil", who, what, v, e)
						}
					}
				}
			}
			for _, who := range append(somebodies(), 0) {
				if x.Leave(who) {
					t.Fatalf("Leave(%d) = true", who)
				}
			}
			isSeen(t, x, api.Thing{})
		}
	}
}

// R5: two things have nothing in common, of one kind or of two, made of the same or not.
func TestTwoThings(t *testing.T) {
	for i := range used(t) {
		for j := range used(t) {
			one, other := used(t)[i], used(t)[j]
			was := other.See()
			for _, what := range asked(one.See().Make.Kind) {
				for v := range uint32(4) {
					one.Try(9, ask(what, v, 2))
					one.Try(8, ask(what, v, 3))
				}
			}
			one.Leave(9)
			one.Leave(8)
			isSeen(t, other, was)
		}
	}
}

// P18.5: of a semaphore there are never more than B, nor fewer than none, and as many as were given and not taken.
func TestNeverMoreThanB(t *testing.T) {
	d := draw(1)
	for _, m := range []api.Make{
		of(api.KiCount, 0, 1), of(api.KiCount, 1, 1), of(api.KiCount, 2, 3), of(api.KiCount, 0, 10), of(api.KiCount, api.MaxCount, api.MaxCount), of(api.KiCount, api.MaxCount-1, api.MaxCount), of(api.KiCount, 0, api.MaxCount),
	} {
		x, many := made(t, m.Kind, m.A, m.B), int64(m.A)
		gives := 5
		for step := range 20000 {
			if step%50 == 0 {
				gives = 1 + d.below(9)
			}
			if d.below(10) < gives {
				if _, e := x.Try(d.of(somebodies()), ask(api.WhGive, 0, 0)); e == api.OK {
					many++
				}
			} else if _, e := x.Try(d.of(somebodies()), ask(api.WhTake, 0, 0)); e == api.OK {
				many--
			}
			if got := x.See().Count; int64(got) != many || got > m.B {
				t.Fatalf("%+v: there are %d, want %d", m, got, many)
			}
		}
	}
}

// P18.5, P0.5: each block is free, or is of who got it last and did not give it back.
func TestEachBlockIsFreeOrSomebodys(t *testing.T) {
	d := draw(2)
	for _, many := range []int{1, 2, 3, 10, 63, 64} {
		x, owner := made(t, api.KiPool, uint32(many), 8), map[uint32]uint32{}
		allocs := 5
		for step := range 10000 {
			if step%(2*many) == 0 {
				allocs = 2 + d.below(8)
			}
			who := d.of(somebodies())
			switch block := uint32(d.below(many)); {
			case d.below(10) < allocs:
				if got, e := x.Try(who, ask(api.WhAlloc, 0, 0)); e == api.OK {
					if owner[got] != 0 {
						t.Fatalf("block %d is %d's, and was given to %d", got, owner[got], who)
					}
					owner[got] = who
				}
			case d.below(20) == 0:
				x.Leave(who)
				for block := range uint32(many) {
					if owner[block] == who {
						owner[block] = 0
					}
				}
			default:
				if d.below(3) > 0 && owner[block] != 0 {
					who = owner[block]
				}
				if _, e := x.Try(who, ask(api.WhFree, block, 0)); (e == api.OK) != (owner[block] == who) {
					t.Fatalf("block %d is %d's, and WhFree of %d told error %d", block, owner[block], who, e)
				} else if e == api.OK {
					owner[block] = 0
				}
			}
			eachHas(t, x, many, owner)
		}
	}
}

// eachHas is whether each block of a pool is seen as its owner's, and whether those of nobody are what is told to be free.
func eachHas(t *testing.T, x *Thing, many int, owner map[uint32]uint32) {
	t.Helper()
	s, free := x.See(), uint32(0)
	if len(s.Owners) != many {
		t.Fatalf("there are %d blocks of %d", len(s.Owners), many)
	}
	for block, who := range s.Owners {
		if who != owner[uint32(block)] {
			t.Fatalf("block %d is seen as %d's, and is %d's", block, who, owner[uint32(block)])
		}
		if who == 0 {
			free++
		}
	}
	if s.Count != free {
		t.Fatalf("%d blocks are told to be free of %d: %v", s.Count, free, s.Owners)
	}
}

// longRun does calls with a thing and with a plain reading of it, side by side.
func longRun(t *testing.T, d *draw, m api.Make, steps int) {
	t.Helper()
	x, p := made(t, m.Kind, m.A, m.B), plainOf(m)
	fits := asked(m.Kind)
	whos := []uint32{1, 2, 9, 257, 1<<31 + 1}
	leans := 0
	for step := range steps {
		if step%(16+2*len(p.see().Owners)+2*len(p.row)) == 0 {
			leans = d.below(6) // so that it is full at times, and empty at others
		}
		who, a := d.of(whos), ask(api.What(d.below(22)), uint32(d.below(8)), uint32(d.below(4)))
		if d.below(3) == 0 {
			a.V = d.of(edges())
		}
		if d.below(15) == 0 {
			a.M = d.of(edges())
		}
		if d.below(40) == 0 {
			who = d.of(edges())
		}
		if len(fits) > 0 && d.below(20) > 0 {
			a.What = fits[d.below(len(fits))]
			if leans < len(fits) && d.below(3) > 0 {
				a.What = fits[leans]
			}
		}
		if d.below(30) == 0 {
			leaves(t, x, who, p.leave(who))
		} else {
			n, e := p.try(who, a)
			tries(t, x, who, a, n, e)
		}
		if got, want := x.See(), p.see(); !same(got, want) {
			t.Fatalf("step %d: See() = %+v, want %+v", step, got, want)
		}
	}
}

// All promises: long runs of calls answer as a plain reading of the chapter does.
func TestLongRunsAgainstAPlainReading(t *testing.T) {
	d := draw(3)
	for _, m := range []api.Make{
		of(api.KiCount, 0, 1), of(api.KiCount, 2, 3), of(api.KiCount, api.MaxCount, api.MaxCount), of(api.KiLock, 0, 0),
		of(api.KiRow, 1, 0), of(api.KiRow, 2, 0), of(api.KiRow, 7, 0), of(api.KiRow, 64, 0),
		of(api.KiFlags, 0, 0), of(api.KiFlags, 5, 0), of(api.KiFlags, math.MaxUint32, 0),
		of(api.KiPool, 1, 1), of(api.KiPool, 3, 8), of(api.KiPool, 8, 256), of(api.KiPool, 64, 1), of(api.KiAlarm, 256, 3),
	} {
		longRun(t, &d, m, 20000)
	}
}

// All promises: many things, of any make that may be.
func TestManyThingsAgainstAPlainReading(t *testing.T) {
	d := draw(4)
	for range 4000 {
		m := of(api.Kind(1+d.below(6)), uint32(d.below(9)), uint32(d.below(9)))
		if d.below(4) == 0 {
			m.A, m.B = d.of(edges()), d.of(edges())
		}
		if d.below(2) == 0 && m.Kind != api.KiCount && m.Kind != api.KiPool {
			m.B = 0
		}
		if mayBe(m) {
			longRun(t, &d, m, 60)
		}
	}
}

// The chapter's examples.
func TestExamples(t *testing.T) {
	s, l := made(t, api.KiCount, 1, 2), made(t, api.KiLock, 0, 0)
	tries(t, s, 9, api.Ask{What: api.WhTake}, 0, api.OK)
	tries(t, s, 9, api.Ask{What: api.WhTake}, 0, api.ErrState)
	tries(t, s, 9, api.Ask{What: api.WhGive}, 0, api.OK)
	tries(t, l, 9, api.Ask{What: api.WhLock}, 0, api.OK)
	tries(t, l, 9, api.Ask{What: api.WhLock}, 0, api.ErrOwner)
	tries(t, l, 8, api.Ask{What: api.WhLock}, 0, api.ErrState)
	tries(t, l, 8, api.Ask{What: api.WhUnlock}, 0, api.ErrOwner)
	leaves(t, l, 9, true)
}
