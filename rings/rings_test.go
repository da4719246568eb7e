package rings

import (
	"math"
	"slices"
	"testing"

	"timekeeper/api"
)

func made(t *testing.T, most int) *Ring {
	t.Helper()
	r, e := New(most)
	if e != api.OK || r == nil {
		t.Fatalf("New(%d): %v, error %d", most, r, e)
	}
	return r
}

// filled is a ring for so many that has these numbers, after so many others have gone through it: its first one does not stand where a new ring's does.
func filled(t *testing.T, most, gone int, numbers ...int) *Ring {
	t.Helper()
	r := made(t, most)
	for range gone {
		puts(t, r, math.MaxInt, api.OK)
		takes(t, r, math.MaxInt)
	}
	for _, n := range numbers {
		puts(t, r, n, api.OK)
	}
	holds(t, r, numbers...)
	return r
}

func puts(t *testing.T, r *Ring, n int, want api.Errno) {
	t.Helper()
	if e := r.Put(n); e != want {
		t.Fatalf("Put(%d): error %d, want %d", n, e, want)
	}
}

func pushes(t *testing.T, r *Ring, n int, want api.Errno) {
	t.Helper()
	if e := r.Push(n); e != want {
		t.Fatalf("Push(%d): error %d, want %d", n, e, want)
	}
}

func takes(t *testing.T, r *Ring, want int) {
	t.Helper()
	if n, e := r.Take(); n != want || e != api.OK {
		t.Fatalf("Take() = %d, error %d, want %d", n, e, want)
	}
}

func takesNone(t *testing.T, r *Ring, want api.Errno) {
	t.Helper()
	if n, e := r.Take(); n != 0 || e != want {
		t.Fatalf("Take() = %d, error %d, want error %d", n, e, want)
	}
}

func removes(t *testing.T, r *Ring, n int, want api.Errno) {
	t.Helper()
	if e := r.Remove(n); e != want {
		t.Fatalf("Remove(%d): error %d, want %d", n, e, want)
	}
}

func turns(t *testing.T, r *Ring, want api.Errno) {
	t.Helper()
	if e := r.Turn(); e != want {
		t.Fatalf("Turn(): error %d, want %d", e, want)
	}
}

func holds(t *testing.T, r *Ring, want ...int) {
	t.Helper()
	if got := r.List(); !slices.Equal(got, want) {
		t.Fatalf("List() = %v, want %v", got, want)
	}
}

// upTo is the numbers 0 to many - 1.
func upTo(many int) []int {
	numbers := make([]int, many)
	for i := range numbers {
		numbers[i] = i
	}
	return numbers
}

// everywhere tries all rings for 1 to 5, with as many numbers as there may be and fewer, whose first one stands at any place.
func everywhere(t *testing.T, try func(most, gone int, numbers []int)) {
	t.Helper()
	for most := 1; most <= 5; most++ {
		for gone := range most {
			for many := 0; many <= most; many++ {
				try(most, gone, []int{40, 10, 0, 30, 20}[:many:many])
			}
		}
	}
}

// P7.1: a row of nobody, for as many as it was made for, no fewer and no more.
func TestNewIsForAsMany(t *testing.T) {
	for _, most := range []int{1, 2, 3, 16, 255, 256, 257, 1023, 1024} {
		r := made(t, most)
		holds(t, r)
		takesNone(t, r, api.ErrEmpty)
		turns(t, r, api.ErrEmpty)
		for n := range most {
			puts(t, r, n, api.OK)
		}
		puts(t, r, most, api.ErrFull)
		pushes(t, r, most, api.ErrFull)
		holds(t, r, upTo(most)...)
	}
}

// P7.1: no fewer than 1, no more than 1024.
func TestNewRefuses(t *testing.T) {
	for _, most := range []int{math.MinInt, math.MinInt32, -1024, -2, -1, 0, 1025, 1026, 2048, 1<<32 + 1, math.MaxInt32, math.MaxInt} {
		if r, e := New(most); r != nil || e != api.ErrArg {
			t.Errorf("New(%d): %v, error %d, want ErrArg", most, r, e)
		}
	}
}

// P7.2: what is put is the last one, wherever the first one stands.
func TestPutIsTheLast(t *testing.T) {
	everywhere(t, func(most, gone int, numbers []int) {
		r := filled(t, most, gone, numbers...)
		if len(numbers) == most {
			puts(t, r, 7, api.ErrFull)
			holds(t, r, numbers...)
			return
		}
		puts(t, r, 7, api.OK)
		holds(t, r, slices.Concat(numbers, []int{7})...)
	})
}

// P7.2: what is pushed is the first one, wherever the first one stood.
func TestPushIsTheFirst(t *testing.T) {
	everywhere(t, func(most, gone int, numbers []int) {
		r := filled(t, most, gone, numbers...)
		if len(numbers) == most {
			pushes(t, r, 7, api.ErrFull)
			holds(t, r, numbers...)
			return
		}
		pushes(t, r, 7, api.OK)
		holds(t, r, slices.Concat([]int{7}, numbers)...)
	})
}

// P7.2: at a ring that has room for one, and has none then; the ring has gone round many times.
func TestPutAndPushAtAGreatRing(t *testing.T) {
	for _, gone := range []int{0, 1, 1023, 1024, 1500, 5000} {
		r := filled(t, 1024, gone, upTo(1023)...)
		pushes(t, r, 2000, api.OK)
		holds(t, r, slices.Concat([]int{2000}, upTo(1023))...)
		puts(t, r, 2001, api.ErrFull)
		pushes(t, r, 2001, api.ErrFull)
		takes(t, r, 2000)
		puts(t, r, 2001, api.OK)
		holds(t, r, slices.Concat(upTo(1023), []int{2001})...)
		puts(t, r, 2002, api.ErrFull)
		pushes(t, r, 2002, api.ErrFull)
	}
}

// P7.2: a row that is made by Push alone is the other way round.
func TestPushAlone(t *testing.T) {
	r := made(t, 1024)
	for n := range 1024 {
		pushes(t, r, n, api.OK)
	}
	want := upTo(1024)
	slices.Reverse(want)
	holds(t, r, want...)
	for n := 1023; n >= 0; n-- {
		takes(t, r, n)
	}
	takesNone(t, r, api.ErrEmpty)
}

// P7.2: any number from 0 on may be there, and none below 0.
func TestNumbersFromNoughtOn(t *testing.T) {
	for _, n := range []int{0, 1, 1023, 1024, 1025, math.MaxInt32, math.MaxInt32 + 1, 1 << 32, math.MaxInt - 1, math.MaxInt} {
		r := made(t, 2)
		puts(t, r, n, api.OK)
		holds(t, r, n)
		puts(t, r, n, api.ErrState)
		pushes(t, r, n, api.ErrState)
		takes(t, r, n)
		pushes(t, r, n, api.OK)
		holds(t, r, n)
		turns(t, r, api.OK)
		removes(t, r, n, api.OK)
		holds(t, r)
	}
	for _, n := range []int{-1, -2, -1024, math.MinInt32, -1 << 32, math.MinInt} {
		for _, numbers := range [][]int{nil, {3}, {3, 4}} {
			r := filled(t, 2, 1, numbers...)
			puts(t, r, n, api.ErrArg)
			pushes(t, r, n, api.ErrArg)
			holds(t, r, numbers...)
		}
	}
}

// P7.2: one that is there already is refused, wherever it is, and the ring is as it was.
func TestNoneIsPutTwice(t *testing.T) {
	everywhere(t, func(most, gone int, numbers []int) {
		r := filled(t, most, gone, numbers...)
		for _, n := range numbers {
			puts(t, r, n, api.ErrState)
			pushes(t, r, n, api.ErrState)
			holds(t, r, numbers...)
		}
	})
}

// P7.2: of errors that hold at once, the first of ErrNil, ErrArg, ErrState and ErrFull is told.
func TestOrderOfErrors(t *testing.T) {
	for _, r := range []*Ring{nil, {}} {
		for _, n := range []int{math.MinInt, -1, 0, 1, math.MaxInt} {
			puts(t, r, n, api.ErrNil)
			pushes(t, r, n, api.ErrNil)
			removes(t, r, n, api.ErrNil)
		}
		takesNone(t, r, api.ErrNil)
		turns(t, r, api.ErrNil)
	}
	full := filled(t, 2, 1, 5, 6)
	puts(t, full, -1, api.ErrArg)
	pushes(t, full, -1, api.ErrArg)
	for _, n := range []int{5, 6} {
		puts(t, full, n, api.ErrState)
		pushes(t, full, n, api.ErrState)
	}
	for _, n := range []int{0, 7} {
		puts(t, full, n, api.ErrFull)
		pushes(t, full, n, api.ErrFull)
	}
	holds(t, full, 5, 6)
}

// P7.3: the first one is taken, and may be put again.
func TestTakeIsTheFirst(t *testing.T) {
	everywhere(t, func(most, gone int, numbers []int) {
		r := filled(t, most, gone, numbers...)
		if len(numbers) == 0 {
			takesNone(t, r, api.ErrEmpty)
			holds(t, r)
			return
		}
		takes(t, r, numbers[0])
		holds(t, r, numbers[1:]...)
		removes(t, r, numbers[0], api.ErrArg)
		puts(t, r, numbers[0], api.OK)
		holds(t, r, slices.Concat(numbers[1:], numbers[:1])...)
	})
}

// P7.3: the first, a middle and the last one are removed, the others stand as they stood, and what was removed may be put again, as the last or as the first one.
func TestRemoveAnyone(t *testing.T) {
	everywhere(t, func(most, gone int, numbers []int) {
		for place, n := range numbers {
			rest := slices.Concat(numbers[:place], numbers[place+1:])
			r := filled(t, most, gone, numbers...)
			removes(t, r, n, api.OK)
			holds(t, r, rest...)
			removes(t, r, n, api.ErrArg)
			holds(t, r, rest...)
			puts(t, r, n, api.OK)
			holds(t, r, slices.Concat(rest, []int{n})...)
			removes(t, r, n, api.OK)
			pushes(t, r, n, api.OK)
			holds(t, r, slices.Concat([]int{n}, rest)...)
		}
	})
}

// P7.3: one that is not there is refused, what was there once and what a new ring's memory holds among them.
func TestRemoveRefuses(t *testing.T) {
	r := made(t, 3)
	for _, n := range []int{math.MinInt, -1, 0, 1, math.MaxInt} {
		removes(t, r, n, api.ErrArg)
	}
	puts(t, r, 5, api.OK)
	puts(t, r, 6, api.OK)
	for _, n := range []int{math.MinInt, -5, -1, 0, 1, 4, 7, 1<<32 + 5, math.MaxInt} {
		removes(t, r, n, api.ErrArg)
		holds(t, r, 5, 6)
	}
	takes(t, r, 5)
	removes(t, r, 5, api.ErrArg)
	removes(t, r, 6, api.OK)
	removes(t, r, 6, api.ErrArg)
	takesNone(t, r, api.ErrEmpty)
	holds(t, r)
}

// P7.4: the first one is the last one, and the others stand as they stood.
func TestTurn(t *testing.T) {
	everywhere(t, func(most, gone int, numbers []int) {
		r := filled(t, most, gone, numbers...)
		if len(numbers) == 0 {
			turns(t, r, api.ErrEmpty)
			holds(t, r)
			return
		}
		for turn := 1; turn <= 2*len(numbers); turn++ {
			turns(t, r, api.OK)
			first := turn % len(numbers)
			holds(t, r, slices.Concat(numbers[first:], numbers[:first])...)
		}
	})
}

// P7.4: a ring that was turned is put to, pushed to and taken from like another.
func TestTurnedRingGoesOn(t *testing.T) {
	r := filled(t, 4, 3, 1, 2, 3)
	turns(t, r, api.OK)
	pushes(t, r, 9, api.OK)
	holds(t, r, 9, 2, 3, 1)
	turns(t, r, api.OK)
	holds(t, r, 2, 3, 1, 9)
	puts(t, r, 7, api.ErrFull)
	removes(t, r, 3, api.OK)
	puts(t, r, 7, api.OK)
	holds(t, r, 2, 1, 9, 7)
	takes(t, r, 2)
	turns(t, r, api.OK)
	holds(t, r, 9, 7, 1)
}

// P7.5: none, one, some and all, the first one first.
func TestList(t *testing.T) {
	r := made(t, 1024)
	holds(t, r)
	want := upTo(1024)
	for n := range want {
		puts(t, r, n, api.OK)
		holds(t, r, want[:n+1]...)
	}
	for n := range want {
		takes(t, r, n)
		holds(t, r, want[n+1:]...)
	}
}

// P7.5: a ring that is not there has none.
func TestListOfNoRing(t *testing.T) {
	for _, r := range []*Ring{nil, {}} {
		if got := r.List(); len(got) != 0 {
			t.Errorf("List() = %v of no ring", got)
		}
	}
}

// P7.5, R4: what List told is memory of its own, its spare room too.
func TestListIsNewMemory(t *testing.T) {
	everywhere(t, func(most, gone int, numbers []int) {
		r := filled(t, most, gone, numbers...)
		one, other := r.List(), r.List()
		one = one[:cap(one)]
		for i := range one {
			one[i] = 77
		}
		if !slices.Equal(other, numbers) {
			t.Fatalf("another list was changed to %v", other)
		}
		holds(t, r, numbers...)
		if len(numbers) > 0 {
			turns(t, r, api.OK)
			takes(t, r, numbers[1%len(numbers)])
		}
		if !slices.Equal(other, numbers) {
			t.Fatalf("the ring changed a list to %v", other)
		}
	})
}

// P7.6: what is put, one after the other, is taken so, however often the row goes round.
func TestTakenAsPut(t *testing.T) {
	for _, most := range []int{1, 2, 3, 7, 1024} {
		r := made(t, most)
		next, first := 0, 0
		for step := range 5 * most {
			for next-first < most-step%2 {
				puts(t, r, next, api.OK)
				next++
			}
			for range 1 + step%3 {
				if first < next {
					takes(t, r, first)
					first++
				}
			}
		}
		for ; first < next; first++ {
			takes(t, r, first)
		}
		takesNone(t, r, api.ErrEmpty)
	}
}

// P7.6: turned as often as there are numbers, it is as it was; not one turn less.
func TestTurnedAllRound(t *testing.T) {
	for _, most := range []int{1, 2, 3, 16, 1023, 1024} {
		for _, many := range []int{1, 2, most - 1, most} {
			if many < 1 || many > most {
				continue
			}
			r := filled(t, most, most/2, upTo(many)...)
			for turn := range many {
				if turn > 0 && slices.Equal(r.List(), upTo(many)) {
					t.Fatalf("%d turns of %d numbers: as it was", turn, many)
				}
				turns(t, r, api.OK)
			}
			holds(t, r, upTo(many)...)
		}
	}
}

// P7.6 and all others: a long run of calls answers as a plain list does; each number is there once.
func TestLongRunAgainstAPlainList(t *testing.T) {
	seed := uint32(1)
	draw := func(below int) int {
		seed = seed*1664525 + 1013904223
		return int(seed>>8) % below
	}
	for _, most := range []int{1, 2, 3, 4, 8, 31} {
		r := made(t, most)
		var row []int
		for range 20000 {
			row = step(t, r, most, row, draw(6), draw(most*3/2+3)-1)
			holds(t, r, row...)
			sorted := slices.Sorted(slices.Values(row))
			if len(slices.Compact(sorted)) != len(row) {
				t.Fatalf("a number is there more than once: %v", row)
			}
		}
	}
}

// step does one call with a ring and the same with a plain list.
func step(t *testing.T, r *Ring, most int, row []int, call, n int) []int {
	t.Helper()
	place := slices.Index(row, n)
	adding := api.OK
	switch {
	case n < 0:
		adding = api.ErrArg
	case place >= 0:
		adding = api.ErrState
	case len(row) == most:
		adding = api.ErrFull
	}
	switch {
	case call < 2:
		puts(t, r, n, adding)
		if adding == api.OK {
			return slices.Concat(row, []int{n})
		}
	case call == 2:
		pushes(t, r, n, adding)
		if adding == api.OK {
			return slices.Concat([]int{n}, row)
		}
	case call == 3 && place < 0:
		removes(t, r, n, api.ErrArg)
	case call == 3:
		removes(t, r, n, api.OK)
		return slices.Concat(row[:place], row[place+1:])
	case call == 4 && len(row) == 0:
		takesNone(t, r, api.ErrEmpty)
	case call == 4:
		takes(t, r, row[0])
		return slices.Clone(row[1:])
	case len(row) == 0:
		turns(t, r, api.ErrEmpty)
	default:
		turns(t, r, api.OK)
		return slices.Concat(row[1:], row[:1])
	}
	return row
}

// R5: two rings share nothing.
func TestTwoRings(t *testing.T) {
	one, other := made(t, 2), made(t, 2)
	puts(t, one, 5, api.OK)
	holds(t, other)
	puts(t, other, 5, api.OK)
	puts(t, other, 6, api.OK)
	holds(t, one, 5)
	takes(t, other, 5)
	turns(t, one, api.OK)
	removes(t, one, 6, api.ErrArg)
	holds(t, one, 5)
	holds(t, other, 6)
}

// R3: calls of no ring do nothing: a zero struct is still none behind them.
func TestNoRingStaysNone(t *testing.T) {
	var r Ring
	for range 2 {
		puts(t, &r, 1, api.ErrNil)
		pushes(t, &r, 1, api.ErrNil)
		takesNone(t, &r, api.ErrNil)
		removes(t, &r, 1, api.ErrNil)
		turns(t, &r, api.ErrNil)
		holds(t, &r)
	}
}

// The chapter's examples.
func TestExamples(t *testing.T) {
	r := made(t, 3)
	puts(t, r, 5, api.OK)
	puts(t, r, 6, api.OK)
	pushes(t, r, 4, api.OK)
	puts(t, r, 7, api.ErrFull)
	puts(t, r, 5, api.ErrState)
	holds(t, r, 4, 5, 6)
	turns(t, r, api.OK)
	holds(t, r, 5, 6, 4)
	removes(t, r, 6, api.OK)
	takes(t, r, 5)
	holds(t, r, 4)
	removes(t, r, 6, api.ErrArg)
	for _, most := range []int{0, 1025} {
		if none, e := New(most); none != nil || e != api.ErrArg {
			t.Errorf("New(%d): error %d, want ErrArg", most, e)
		}
	}
	puts(t, r, -1, api.ErrArg)
}
