package deltas

import (
	"math"
	"slices"
	"testing"

	"timekeeper/api"
)

// sleeper is one that sleeps, and how many ticks are left.
type sleeper struct {
	who  int
	left int64
}

// noTicks are ticks for which nobody may be put: the ones at the edges, ones that may be in fewer bits, and ones far from both.
func noTicks() []int64 {
	return []int64{
		math.MinInt64, math.MinInt64 + 1, -1 << 32, -1<<32 + 1, math.MinInt32, -1<<30 - 1, -1 << 30, -2, -1, 0,
		1<<30 + 1, 1<<30 + 2, math.MaxInt32, 1 << 31, 1<<32 - 1, 1 << 32, 1<<32 + 1, 1<<33 + 5, math.MaxInt64 - 1, math.MaxInt64,
	}
}

// nobodies are numbers below 0, some of which are none in fewer bits.
func nobodies() []int {
	return []int{math.MinInt, math.MinInt + 1, -1<<32 - 1, -1 << 32, -1<<32 + 1, math.MinInt32, -256, -8, -7, -2, -1}
}

func puts(t *testing.T, l *List, who int, ticks int64) {
	t.Helper()
	if e := l.Put(who, ticks); e != api.OK {
		t.Fatalf("Put(%d, %d): error %d", who, ticks, e)
	}
}

func removes(t *testing.T, l *List, who int) {
	t.Helper()
	if e := l.Remove(who); e != api.OK {
		t.Fatalf("Remove(%d): error %d", who, e)
	}
}

// wakes tells whether these wake at the next tick.
func wakes(t *testing.T, l *List, want ...int) {
	t.Helper()
	if woken := l.Tick(); !slices.Equal(woken, want) {
		t.Fatalf("Tick() = %v, want %v", woken, want)
	}
}

// stands tells whether these sleep, in this order, and nobody else; of each whether so many ticks are left.
func stands(t *testing.T, l *List, want ...sleeper) {
	t.Helper()
	all := l.All()
	if len(all) != len(want) {
		t.Fatalf("All() = %v, want %v", all, want)
	}
	for place, one := range want {
		left, e := l.Left(one.who)
		if all[place] != one.who || left != one.left || e != api.OK {
			t.Fatalf("All() = %v, Left(%d) = %d, error %d, want %v", all, one.who, left, e, want)
		}
	}
}

// asItIs is who sleeps, and how long.
func asItIs(l *List) []sleeper {
	var told []sleeper
	for _, who := range l.All() {
		left, _ := l.Left(who)
		told = append(told, sleeper{who, left})
	}
	return told
}

// refuses tells whether Put answers this error, and changes nothing.
func refuses(t *testing.T, l *List, who int, ticks int64, want api.Errno) {
	t.Helper()
	was := asItIs(l)
	if e := l.Put(who, ticks); e != want {
		t.Fatalf("Put(%d, %d): error %d, want %d", who, ticks, e, want)
	}
	stands(t, l, was...)
}

// sleepsNot tells whether Remove and Left both answer this error of somebody, and change nothing.
func sleepsNot(t *testing.T, l *List, who int, want api.Errno) {
	t.Helper()
	was := asItIs(l)
	if e := l.Remove(who); e != want {
		t.Fatalf("Remove(%d): error %d, want %d", who, e, want)
	}
	if left, e := l.Left(who); left != 0 || e != want {
		t.Fatalf("Left(%d) = %d, error %d, want error %d", who, left, e, want)
	}
	stands(t, l, was...)
}

// of is a list with these, put in this order.
func of(t *testing.T, these ...sleeper) *List {
	t.Helper()
	l := New()
	for _, one := range these {
		puts(t, l, one.who, one.left)
	}
	return l
}

// P10.1: nobody sleeps, nobody wakes, and anybody may be put.
func TestNewHasNobody(t *testing.T) {
	l := New()
	if l == nil {
		t.Fatal("New() is nil")
	}
	for range 3 {
		stands(t, l)
		wakes(t, l)
	}
	for _, who := range []int{0, 1, 7, 31, 1 << 32, math.MaxInt} {
		sleepsNot(t, l, who, api.ErrArg)
		puts(t, New(), who, 1)
	}
	stands(t, l)
}

// P10.2: who is put sleeps, and as many ticks are left, at both edges of who and of ticks.
func TestPut(t *testing.T) {
	for _, who := range []int{0, 1, 2, 255, 256, math.MaxInt32, 1 << 31, 1 << 32, 1<<32 + 1, 1 << 62, math.MaxInt - 1, math.MaxInt} {
		for _, ticks := range []int64{1, 2, 3, 255, 256, 65535, 65536, 1<<30 - 1, 1 << 30} {
			l := New()
			puts(t, l, who, ticks)
			stands(t, l, sleeper{who, ticks})
			refuses(t, l, who, ticks, api.ErrState)
		}
	}
	if api.MaxWait != 1<<30 {
		t.Errorf("MaxWait is %d", api.MaxWait)
	}
}

// P10.2: numbers that are one in fewer bits are not one.
func TestNumbersOfManyBits(t *testing.T) {
	l := of(t, sleeper{5, 2})
	for i, who := range []int{5 + 1<<8, 5 + 1<<16, 5 + 1<<31, 5 + 1<<32, 5 + 1<<62} {
		sleepsNot(t, l, who, api.ErrArg)
		puts(t, l, who, int64(3+i))
	}
	wakes(t, l)
	wakes(t, l, 5)
	wakes(t, l, 5+1<<8)
	wakes(t, l, 5+1<<16)
	wakes(t, l, 5+1<<31)
	wakes(t, l, 5+1<<32)
	wakes(t, l, 5+1<<62)
	stands(t, l)
}

// P10.2, R2: somebody below 0, and ticks that are not 1 to MaxWait, are refused, whoever sleeps, and nothing is changed.
func TestPutErrArg(t *testing.T) {
	for _, l := range []*List{New(), of(t, sleeper{0, 1}), of(t, sleeper{7, 2}, sleeper{8, 2}, sleeper{9, 1 << 30})} {
		for _, who := range nobodies() {
			for _, ticks := range []int64{1, 2, 1 << 30} {
				refuses(t, l, who, ticks, api.ErrArg)
			}
		}
		for _, ticks := range noTicks() {
			for _, who := range []int{1, 2, math.MaxInt, -1} {
				refuses(t, l, who, ticks, api.ErrArg)
			}
		}
	}
}

// P10.2: who sleeps already is refused, for as many ticks, for fewer and for more; ErrArg is told ahead of that.
func TestPutErrState(t *testing.T) {
	l := of(t, sleeper{7, 3}, sleeper{8, 1}, sleeper{9, 3}, sleeper{0, 1 << 30})
	for _, who := range []int{7, 8, 9, 0} {
		for _, ticks := range []int64{1, 2, 3, 4, 1 << 30} {
			refuses(t, l, who, ticks, api.ErrState)
		}
		for _, ticks := range noTicks() {
			refuses(t, l, who, ticks, api.ErrArg)
		}
	}
	wakes(t, l, 8)
	refuses(t, l, 7, 3, api.ErrState)
	stands(t, l, sleeper{7, 2}, sleeper{9, 2}, sleeper{0, 1<<30 - 1})
}

// R2, R3: of a list that is not there ErrNil is told, ahead of all else, and nobody; the calls do nothing: a zero struct is still none behind them.
func TestNotThere(t *testing.T) {
	for _, l := range []*List{nil, {}} {
		for range 2 {
			for _, who := range append(nobodies(), 0, 1, 7, math.MaxInt) {
				for _, ticks := range append(noTicks(), 1, 2, 1<<30) {
					refuses(t, l, who, ticks, api.ErrNil)
				}
				sleepsNot(t, l, who, api.ErrNil)
			}
			wakes(t, l)
			stands(t, l)
		}
	}
}

// P10.3: who does not sleep: who was never put, was removed, or has woken, and all below 0.
func TestWhoSleepsNot(t *testing.T) {
	l := of(t, sleeper{7, 3}, sleeper{8, 1}, sleeper{9, 2})
	for _, who := range append(nobodies(), 0, 1, 6, 10, 7+1<<32, math.MaxInt) {
		sleepsNot(t, l, who, api.ErrArg)
	}
	removes(t, l, 9)
	sleepsNot(t, l, 9, api.ErrArg)
	wakes(t, l, 8)
	sleepsNot(t, l, 8, api.ErrArg)
	stands(t, l, sleeper{7, 2})
	wakes(t, l)
	wakes(t, l, 7)
	for _, who := range []int{7, 8, 9} {
		sleepsNot(t, l, who, api.ErrArg)
	}
}

// P10.3: as many ticks are left as was put, less those that went by, whoever is put, is removed or wakes meanwhile; asking changes nothing.
func TestLeft(t *testing.T) {
	l := of(t, sleeper{1, 10})
	for gone := range int64(9) {
		for range 2 {
			if left, e := l.Left(1); left != 10-gone || e != api.OK {
				t.Fatalf("behind %d ticks: Left(1) = %d, error %d", gone, left, e)
			}
		}
		switch gone % 3 {
		case 0:
			puts(t, l, 2, 1)
			puts(t, l, 3, 1<<30)
			wakes(t, l, 2)
		case 1:
			removes(t, l, 3)
			wakes(t, l)
		default:
			puts(t, l, 2, 3)
			removes(t, l, 2)
			wakes(t, l)
		}
	}
	stands(t, l, sleeper{1, 1})
	wakes(t, l, 1)
	stands(t, l)
}

// P10.4: nobody sleeps, nobody wakes, one wakes, and several wake at one tick.
func TestTick(t *testing.T) {
	l := New()
	wakes(t, l)
	puts(t, l, 5, 2)
	puts(t, l, 3, 4)
	puts(t, l, 4, 4)
	puts(t, l, 2, 4)
	puts(t, l, 1, 5)
	wakes(t, l)
	stands(t, l, sleeper{5, 1}, sleeper{3, 3}, sleeper{4, 3}, sleeper{2, 3}, sleeper{1, 4})
	wakes(t, l, 5)
	wakes(t, l)
	wakes(t, l, 3, 4, 2)
	stands(t, l, sleeper{1, 1})
	wakes(t, l, 1)
	for range 3 {
		wakes(t, l)
		stands(t, l)
	}
}

// P10.4: who wake at one tick are told in the order in which they were put, whatever was put between them, also at ticks of their own.
func TestWakeInTheOrderOfPut(t *testing.T) {
	l := New()
	puts(t, l, 9, 5)
	puts(t, l, 20, 7)
	puts(t, l, 3, 5)
	puts(t, l, 21, 1)
	wakes(t, l, 21)
	puts(t, l, 6, 4)
	puts(t, l, 22, 3)
	puts(t, l, 1, 4)
	wakes(t, l)
	puts(t, l, 8, 3)
	puts(t, l, 23, 4)
	wakes(t, l)
	wakes(t, l, 22)
	puts(t, l, 0, 1)
	puts(t, l, 24, 2)
	wakes(t, l, 9, 3, 6, 1, 8, 0)
	stands(t, l, sleeper{23, 1}, sleeper{24, 1}, sleeper{20, 2})
	wakes(t, l, 23, 24)
	wakes(t, l, 20)
	stands(t, l)
}

// P10.4: a hundred at one tick, in whatever order of their numbers, among a hundred that wake at ticks of their own.
func TestManyAtOneTick(t *testing.T) {
	l := New()
	var want []int
	for i := range 100 {
		who := i * 37 % 101
		puts(t, l, who, 50)
		puts(t, l, 1000+i, int64(i+1))
		want = append(want, who)
	}
	for tick := range 100 {
		if tick == 49 {
			at := slices.Concat(want[:50], []int{1049}, want[50:])
			wakes(t, l, at...)
			continue
		}
		wakes(t, l, 1000+tick)
	}
	stands(t, l)
}

// P10.5: by how many ticks are left, also where some were put later for fewer ticks; of as many in the order in which they were put.
func TestAll(t *testing.T) {
	l := New()
	puts(t, l, 1, 5)
	stands(t, l, sleeper{1, 5})
	puts(t, l, 2, 3)
	stands(t, l, sleeper{2, 3}, sleeper{1, 5})
	puts(t, l, 3, 4)
	stands(t, l, sleeper{2, 3}, sleeper{3, 4}, sleeper{1, 5})
	puts(t, l, 4, 5)
	puts(t, l, 0, 3)
	stands(t, l, sleeper{2, 3}, sleeper{0, 3}, sleeper{3, 4}, sleeper{1, 5}, sleeper{4, 5})
	puts(t, l, 6, 1)
	puts(t, l, 5, 1<<30)
	stands(t, l, sleeper{6, 1}, sleeper{2, 3}, sleeper{0, 3}, sleeper{3, 4}, sleeper{1, 5}, sleeper{4, 5}, sleeper{5, 1 << 30})
	wakes(t, l, 6)
	puts(t, l, 9, 2)
	puts(t, l, 8, 4)
	puts(t, l, 7, 1)
	stands(t, l, sleeper{7, 1}, sleeper{2, 2}, sleeper{0, 2}, sleeper{9, 2}, sleeper{3, 3}, sleeper{1, 4}, sleeper{4, 4}, sleeper{8, 4}, sleeper{5, 1<<30 - 1})
}

// P10.5: whatever the order in which four are put for 1 to 3 ticks each, they stand by their ticks, and of as many as they were put.
func TestAllOfEachOrder(t *testing.T) {
	for way := range 81 {
		l := New()
		var want []sleeper
		rest := way
		for who := range 4 {
			one := sleeper{who, int64(rest%3 + 1)}
			rest /= 3
			puts(t, l, one.who, one.left)
			want = append(want, one)
		}
		slices.SortStableFunc(want, func(a, b sleeper) int { return int(a.left - b.left) })
		stands(t, l, want...)
		for tick := int64(1); tick <= 3; tick++ {
			var woken []int
			for _, one := range want {
				if one.left == tick {
					woken = append(woken, one.who)
				}
			}
			wakes(t, l, woken...)
		}
		stands(t, l)
	}
}

// P10.6: who is put for so many ticks wakes at that tick from then on, and not before, behind however many ticks, and with others ahead and behind.
func TestWakesThen(t *testing.T) {
	for _, before := range []int{0, 1, 2, 17} {
		for _, ticks := range []int64{1, 2, 3, 10, 255, 256, 257, 1000} {
			l := of(t, sleeper{1, 18}, sleeper{2, 1 << 30})
			for range before {
				wakes(t, l)
			}
			removes(t, l, 1)
			puts(t, l, 7, ticks)
			for gone := range ticks - 1 {
				wakes(t, l)
				if left, e := l.Left(7); left != ticks-1-gone || e != api.OK {
					t.Fatalf("Left(7) = %d, error %d, want %d", left, e, ticks-1-gone)
				}
			}
			wakes(t, l, 7)
			stands(t, l, sleeper{2, 1<<30 - int64(before) - ticks})
		}
	}
}

// P10.6: MaxWait away, as far as it can be seen by Left: a tick less at each one, and behind those that wake before.
func TestFarAway(t *testing.T) {
	l := of(t, sleeper{1, 1 << 30}, sleeper{2, 1<<30 - 1}, sleeper{3, 1 << 30}, sleeper{4, 100})
	for gone := int64(1); gone < 100; gone++ {
		wakes(t, l)
		stands(t, l, sleeper{4, 100 - gone}, sleeper{2, 1<<30 - 1 - gone}, sleeper{1, 1<<30 - gone}, sleeper{3, 1<<30 - gone})
	}
	wakes(t, l, 4)
	puts(t, l, 5, 1<<30)
	puts(t, l, 6, 1<<30-100)
	removes(t, l, 2)
	stands(t, l, sleeper{1, 1<<30 - 100}, sleeper{3, 1<<30 - 100}, sleeper{6, 1<<30 - 100}, sleeper{5, 1 << 30})
	for gone := int64(101); gone <= 100000; gone++ {
		if woken := l.Tick(); len(woken) != 0 {
			t.Fatalf("behind %d ticks: %v", gone, woken)
		}
	}
	stands(t, l, sleeper{1, 1<<30 - 100000}, sleeper{3, 1<<30 - 100000}, sleeper{6, 1<<30 - 100000}, sleeper{5, 1<<30 - 99900})
}

// P10.6: Remove of each one, the first, the last, one between and one of several at one tick, at each tick, changes nothing of when others wake.
func TestRemoveChangesNoOther(t *testing.T) {
	these := []sleeper{{4, 2}, {3, 5}, {0, 5}, {2, 5}, {6, 6}, {1, 9}}
	for _, gone := range these {
		for at := range gone.left {
			l := of(t, these...)
			for tick := int64(1); tick <= 10; tick++ {
				if tick == at+1 {
					removes(t, l, gone.who)
					sleepsNot(t, l, gone.who, api.ErrArg)
				}
				var woken []int
				var asleep []sleeper
				for _, one := range these {
					isGone := one == gone && tick > at
					if !isGone && one.left == tick {
						woken = append(woken, one.who)
					} else if !isGone && one.left > tick {
						asleep = append(asleep, sleeper{one.who, one.left - tick})
					}
				}
				wakes(t, l, woken...)
				stands(t, l, asleep...)
			}
		}
	}
}

// P10.6: Put of one at each tick, ahead of, among and behind the others, changes nothing of when they wake.
func TestPutChangesNoOther(t *testing.T) {
	these := []sleeper{{4, 2}, {3, 5}, {0, 5}, {6, 6}, {1, 9}}
	for ticks := int64(1); ticks <= 11; ticks++ {
		l := of(t, these...)
		puts(t, l, 7, ticks)
		for tick := int64(1); tick <= 12; tick++ {
			var woken []int
			for _, one := range append(slices.Clone(these), sleeper{7, ticks}) {
				if one.left == tick {
					woken = append(woken, one.who)
				}
			}
			wakes(t, l, woken...)
		}
		stands(t, l)
	}
}

// P10.6: all are removed, in each order of three, and nobody wakes.
func TestRemoveAll(t *testing.T) {
	for _, order := range [][3]int{{1, 2, 3}, {1, 3, 2}, {2, 1, 3}, {2, 3, 1}, {3, 1, 2}, {3, 2, 1}} {
		l := of(t, sleeper{1, 1}, sleeper{2, 2}, sleeper{3, 2})
		for _, who := range order {
			removes(t, l, who)
		}
		stands(t, l)
		for range 3 {
			wakes(t, l)
		}
		puts(t, l, 2, 1)
		wakes(t, l, 2)
	}
}

// P10.2, P10.3: who is removed, or has woken, may be put again, for other ticks, and stands behind those that were put meanwhile.
func TestPutAgain(t *testing.T) {
	l := of(t, sleeper{1, 3}, sleeper{2, 3}, sleeper{3, 1})
	removes(t, l, 1)
	puts(t, l, 1, 3)
	stands(t, l, sleeper{3, 1}, sleeper{2, 3}, sleeper{1, 3})
	removes(t, l, 2)
	puts(t, l, 2, 1)
	stands(t, l, sleeper{3, 1}, sleeper{2, 1}, sleeper{1, 3})
	wakes(t, l, 3, 2)
	puts(t, l, 2, 2)
	puts(t, l, 3, 1)
	stands(t, l, sleeper{3, 1}, sleeper{1, 2}, sleeper{2, 2})
	wakes(t, l, 3)
	wakes(t, l, 1, 2)
	for range 5 {
		puts(t, l, 1, 1)
		wakes(t, l, 1)
	}
	stands(t, l)
}

// spoil overwrites a list, its spare room too.
func spoil(list []int) {
	list = list[:cap(list)]
	for i := range list {
		list[i] = -99
	}
}

// R4: what Tick and All answer is memory of their own, spare room too: neither the list nor another answer changes with it.
func TestAnswersAreTheirOwn(t *testing.T) {
	l := of(t, sleeper{1, 1}, sleeper{2, 1}, sleeper{3, 1}, sleeper{4, 2}, sleeper{5, 2}, sleeper{6, 2}, sleeper{7, 9})
	all, again := l.All(), l.All()
	spoil(all)
	if !slices.Equal(again, []int{1, 2, 3, 4, 5, 6, 7}) {
		t.Fatalf("another answer is %v", again)
	}
	stands(t, l, sleeper{1, 1}, sleeper{2, 1}, sleeper{3, 1}, sleeper{4, 2}, sleeper{5, 2}, sleeper{6, 2}, sleeper{7, 9})
	first := l.Tick()
	kept := slices.Clone(first)
	between := l.All()
	second := l.Tick()
	spoil(second)
	puts(t, l, 8, 1)
	if !slices.Equal(first, kept) || !slices.Equal(kept, []int{1, 2, 3}) || !slices.Equal(between, []int{4, 5, 6, 7}) {
		t.Fatalf("answers are %v and %v", first, between)
	}
	spoil(first)
	spoil(between)
	stands(t, l, sleeper{8, 1}, sleeper{7, 7})
	wakes(t, l, 8)
}

// R5: two lists share nothing: neither who sleeps nor the ticks.
func TestTwoShareNothing(t *testing.T) {
	one, other := New(), New()
	puts(t, one, 1, 2)
	stands(t, other)
	puts(t, other, 1, 3)
	puts(t, other, 2, 1)
	wakes(t, one)
	stands(t, other, sleeper{2, 1}, sleeper{1, 3})
	wakes(t, other, 2)
	removes(t, other, 1)
	stands(t, one, sleeper{1, 1})
	wakes(t, one, 1)
	stands(t, other)
	stands(t, New())
}

// record is a plain list: who sleeps, in the order in which they were put, and how many ticks are left.
type record struct {
	those []sleeper
}

func (r *record) placeOf(who int) int {
	return slices.IndexFunc(r.those, func(one sleeper) bool { return one.who == who })
}

// all by how many ticks are left, of as many in the order in which they were put.
func (r *record) all() []sleeper {
	told := slices.Clone(r.those)
	slices.SortStableFunc(told, func(a, b sleeper) int { return int(a.left - b.left) })
	return told
}

func (r *record) tick() []int {
	var woken []int
	var asleep []sleeper
	for _, one := range r.those {
		if one.left == 1 {
			woken = append(woken, one.who)
		} else {
			asleep = append(asleep, sleeper{one.who, one.left - 1})
		}
	}
	r.those = asleep
	return woken
}

// step does one call with a list and the same with the record.
func (r *record) step(t *testing.T, l *List, call, who int, ticks int64) {
	t.Helper()
	place := r.placeOf(who)
	switch {
	case call < 5 && place < 0:
		puts(t, l, who, ticks)
		r.those = append(r.those, sleeper{who, ticks})
	case call < 5:
		refuses(t, l, who, ticks, api.ErrState)
	case call == 5 && place < 0:
		sleepsNot(t, l, who, api.ErrArg)
	case call == 5:
		removes(t, l, who)
		r.those = slices.Delete(r.those, place, place+1)
	case call == 6:
		refuses(t, l, who, 1-ticks, api.ErrArg)
		refuses(t, l, -who-1, ticks, api.ErrArg)
	default:
		wakes(t, l, r.tick()...)
	}
}

// All promises: a long run of calls answers as a plain record does.
func TestLongRunAgainstAPlainRecord(t *testing.T) {
	seed := uint32(1)
	draw := func(below int) int {
		seed = seed*1664525 + 1013904223
		return int(seed>>8) % below
	}
	for _, most := range []int{1, 3, 10, 40} {
		for _, longest := range []int{1, 3, 12, 60, 1 << 20} {
			l, r := New(), &record{}
			for range 1500 {
				r.step(t, l, draw(10), draw(most), int64(draw(longest)+1))
				stands(t, l, r.all()...)
			}
		}
	}
}

// The chapter's examples.
func TestExamples(t *testing.T) {
	l := New()
	puts(t, l, 7, 3)
	puts(t, l, 8, 1)
	puts(t, l, 9, 3)
	if e := l.Put(7, 1); e != api.ErrState {
		t.Errorf("Put(7, 1): error %d, want ErrState", e)
	}
	if all := l.All(); !slices.Equal(all, []int{8, 7, 9}) {
		t.Errorf("All() = %v, want 8 7 9", all)
	}

	wakes(t, l, 8)
	if left, e := l.Left(9); left != 2 || e != api.OK {
		t.Errorf("Left(9) = %d, error %d, want 2", left, e)
	}
	wakes(t, l)
	wakes(t, l, 7, 9)
	wakes(t, l)

	for _, e := range []api.Errno{l.Put(-1, 1), l.Put(1, 0), l.Put(1, 1<<30+1), l.Remove(5)} {
		if e != api.ErrArg {
			t.Errorf("error %d, want ErrArg", e)
		}
	}
}
