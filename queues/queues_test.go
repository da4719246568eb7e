package queues

import (
	"math"
	"slices"
	"testing"

	"timekeeper/api"
)

// somes are messages at the edges, and ones that are equal in fewer bits.
func somes() []uint32 {
	return []uint32{0, 1, 2, 63, 64, 65, 255, 256, 257, 65535, 65536, 65537, math.MaxInt32, 1 << 31, 1<<31 + 1, math.MaxUint32 - 1, math.MaxUint32}
}

func made(t *testing.T, most int) *Queue {
	t.Helper()
	q, e := New(most)
	if e != api.OK || q == nil {
		t.Fatalf("New(%d): %v, error %d", most, q, e)
	}
	return q
}

func puts(t *testing.T, q *Queue, v uint32, want api.Errno) {
	t.Helper()
	if e := q.Put(v); e != want {
		t.Fatalf("Put(%d): error %d, want %d", v, e, want)
	}
}

func pushes(t *testing.T, q *Queue, v uint32, want api.Errno) {
	t.Helper()
	if e := q.Push(v); e != want {
		t.Fatalf("Push(%d): error %d, want %d", v, e, want)
	}
}

func peeks(t *testing.T, q *Queue, want uint32) {
	t.Helper()
	if v, e := q.Peek(); v != want || e != api.OK {
		t.Fatalf("Peek() = %d, error %d, want %d", v, e, want)
	}
}

func takes(t *testing.T, q *Queue, want uint32) {
	t.Helper()
	if v, e := q.Take(); v != want || e != api.OK {
		t.Fatalf("Take() = %d, error %d, want %d", v, e, want)
	}
}

// hasNone tells whether Take and Peek both answer this error and the message 0, again and again, and List none.
func hasNone(t *testing.T, q *Queue, want api.Errno) {
	t.Helper()
	for range 2 {
		if v, e := q.Take(); v != 0 || e != want {
			t.Fatalf("Take() = %d, error %d, want error %d", v, e, want)
		}
		if v, e := q.Peek(); v != 0 || e != want {
			t.Fatalf("Peek() = %d, error %d, want error %d", v, e, want)
		}
		holds(t, q)
	}
}

// isFull tells whether no message may be added on either side, and whether trying changes nothing.
func isFull(t *testing.T, q *Queue) {
	t.Helper()
	was := q.List()
	for _, v := range somes() {
		puts(t, q, v, api.ErrFull)
		pushes(t, q, v, api.ErrFull)
	}
	holds(t, q, was...)
}

func holds(t *testing.T, q *Queue, want ...uint32) {
	t.Helper()
	if got := q.List(); !slices.Equal(got, want) {
		t.Fatalf("List() = %v, want %v", got, want)
	}
}

// upTo is the messages 0 to many - 1.
func upTo(many int) []uint32 {
	row := make([]uint32, many)
	for i := range row {
		row[i] = uint32(i)
	}
	return row
}

// wander lets so many messages go through an empty queue: its first one does not stand where a new queue's does then.
func wander(t *testing.T, q *Queue, gone int) {
	t.Helper()
	for range gone {
		puts(t, q, math.MaxUint32, api.OK)
		takes(t, q, math.MaxUint32)
	}
}

// filled is a queue for so many that has these messages, after so many others have gone through it; the first so many (pushed) of them come in by Push.
func filled(t *testing.T, most, gone, pushed int, row ...uint32) *Queue {
	t.Helper()
	q := made(t, most)
	wander(t, q, gone)
	for place := pushed - 1; place >= 0; place-- {
		pushes(t, q, row[place], api.OK)
	}
	for _, v := range row[pushed:] {
		puts(t, q, v, api.OK)
	}
	holds(t, q, row...)
	return q
}

// everywhere tries queues of many sizes that are empty, have one message, are full but for one and are full, whose first one stands at any slot, and whose row came in from one side, from the other, and from both.
func everywhere(t *testing.T, try func(q *Queue, most int, row []uint32)) {
	t.Helper()
	for _, most := range []int{1, 2, 3, 4, 31, 32, 63, 64} {
		manies := []int{0, 1, most / 2, most - 1, most}
		slices.Sort(manies)
		for _, many := range slices.Compact(manies) {
			row := upTo(many)
			for i := range row {
				row[i] = row[i]*40503 + 7
			}
			for gone := range api.MaxRow + 2 {
				for _, pushed := range []int{0, many / 2, many} {
					try(filled(t, most, gone, pushed, row...), most, slices.Clone(row))
				}
			}
		}
	}
}

// P11.1: a queue without messages, for as many as it was made for, no fewer and no more, from either side.
func TestNewIsForAsMany(t *testing.T) {
	for most := 1; most <= 64; most++ {
		q := made(t, most)
		hasNone(t, q, api.ErrEmpty)
		for v := range most {
			puts(t, q, uint32(v), api.OK)
		}
		isFull(t, q)
		holds(t, q, upTo(most)...)
		q = made(t, most)
		for v := range most {
			pushes(t, q, uint32(most-1-v), api.OK)
		}
		isFull(t, q)
		holds(t, q, upTo(most)...)
	}
	if api.MaxRow != 64 {
		t.Errorf("MaxRow is %d", api.MaxRow)
	}
}

// P11.1: no fewer than 1, no more than MaxRow; ones that may be in fewer bits among them.
func TestNewRefuses(t *testing.T) {
	for _, most := range []int{
		math.MinInt, math.MinInt + 1, -1<<32 + 1, math.MinInt32, -256, -255, -65, -64, -63, -2, -1, 0,
		65, 66, 127, 128, 255, 256, 257, 320, 65536, 65537, math.MaxInt32, 1 << 32, 1<<32 + 1, 1<<32 + 64, math.MaxInt - 1, math.MaxInt,
	} {
		if q, e := New(most); q != nil || e != api.ErrArg {
			t.Errorf("New(%d): %v, error %d, want ErrArg", most, q, e)
		}
	}
}

// P11.2: what is put is the last one, wherever the first one stands; if there is no room, nothing is changed.
func TestPutIsTheLast(t *testing.T) {
	everywhere(t, func(q *Queue, most int, row []uint32) {
		if len(row) == most {
			puts(t, q, 5, api.ErrFull)
			holds(t, q, row...)
			return
		}
		puts(t, q, 5, api.OK)
		holds(t, q, append(row, 5)...)
		peeks(t, q, append(row, 5)[0])
	})
}

// P11.2: what is pushed is the first one, wherever the first one stood; if there is no room, nothing is changed.
func TestPushIsTheFirst(t *testing.T) {
	everywhere(t, func(q *Queue, most int, row []uint32) {
		if len(row) == most {
			pushes(t, q, 5, api.ErrFull)
			holds(t, q, row...)
			return
		}
		pushes(t, q, 5, api.OK)
		holds(t, q, slices.Concat([]uint32{5}, row)...)
		peeks(t, q, 5)
	})
}

// P11.2: a queue that was full has room for as many as were taken, and is full again then.
func TestFullAgain(t *testing.T) {
	for _, most := range []int{1, 2, 3, 63, 64} {
		q := filled(t, most, most/2, most/2, upTo(most)...)
		row := upTo(most)
		for step := range 3 * most {
			isFull(t, q)
			many := 1 + step%most
			for _, v := range row[:many] {
				takes(t, q, v)
			}
			row = slices.Clone(row[many:])
			for i := range many {
				v := uint32(1000*step + i)
				if (step+i)%3 == 0 {
					pushes(t, q, v, api.OK)
					row = slices.Insert(row, 0, v)
				} else {
					puts(t, q, v, api.OK)
					row = append(row, v)
				}
			}
			holds(t, q, row...)
		}
		isFull(t, q)
	}
}

// P11.2, P11.3: any number of 32 bits is a message, 0 and the greatest one among them, and comes out as it went in.
func TestAnyNumberIsAMessage(t *testing.T) {
	for _, v := range somes() {
		q := made(t, 2)
		puts(t, q, v, api.OK)
		holds(t, q, v)
		peeks(t, q, v)
		takes(t, q, v)
		hasNone(t, q, api.ErrEmpty)
		pushes(t, q, v, api.OK)
		holds(t, q, v)
		peeks(t, q, v)
		takes(t, q, v)
		hasNone(t, q, api.ErrEmpty)
	}
	q := made(t, 64)
	for _, v := range somes() {
		puts(t, q, v, api.OK)
	}
	holds(t, q, somes()...)
	for _, v := range somes() {
		takes(t, q, v)
	}
}

// P11.2: equal messages are each one of its own.
func TestEqualMessages(t *testing.T) {
	for _, v := range []uint32{0, 5, math.MaxUint32} {
		for _, most := range []int{1, 2, 5, 64} {
			q := made(t, most)
			row := slices.Repeat([]uint32{v}, most)
			for many := range most {
				if many%2 == 0 {
					puts(t, q, v, api.OK)
				} else {
					pushes(t, q, v, api.OK)
				}
				holds(t, q, row[:many+1]...)
			}
			isFull(t, q)
			for many := most; many > 0; many-- {
				peeks(t, q, v)
				takes(t, q, v)
				holds(t, q, row[:many-1]...)
			}
			hasNone(t, q, api.ErrEmpty)
		}
	}
}

// P11.3: the first one; Peek leaves it, however often it is asked, and Take takes it off, it alone.
func TestTakeAndPeekTheFirst(t *testing.T) {
	everywhere(t, func(q *Queue, most int, row []uint32) {
		for place, v := range row {
			peeks(t, q, v)
			peeks(t, q, v)
			holds(t, q, row[place:]...)
			takes(t, q, v)
			holds(t, q, row[place+1:]...)
		}
		hasNone(t, q, api.ErrEmpty)
	})
}

// P11.3, R2: of a queue that has become empty nothing of what was there is told, and it may be used on.
func TestEmptyAgain(t *testing.T) {
	for _, most := range []int{1, 2, 64} {
		q := made(t, most)
		for round := range uint32(200) {
			puts(t, q, round, api.OK)
			takes(t, q, round)
			hasNone(t, q, api.ErrEmpty)
			pushes(t, q, round, api.OK)
			takes(t, q, round)
			hasNone(t, q, api.ErrEmpty)
		}
		for v := range most {
			puts(t, q, uint32(v), api.OK)
		}
		isFull(t, q)
		holds(t, q, upTo(most)...)
	}
}

// R2, R3: of a queue that is not there ErrNil is told, ahead of ErrFull and ErrEmpty, and no message; the calls do nothing: a zero struct is still none behind them.
func TestNotThere(t *testing.T) {
	for _, q := range []*Queue{nil, {}, new(Queue)} {
		for range 2 {
			for _, v := range somes() {
				puts(t, q, v, api.ErrNil)
				pushes(t, q, v, api.ErrNil)
			}
			hasNone(t, q, api.ErrNil)
		}
	}
}

// P11.4: none, one, some and all, the first one first; asking changes nothing.
func TestList(t *testing.T) {
	for gone := range 65 {
		q := made(t, 64)
		wander(t, q, gone)
		want := upTo(64)
		holds(t, q)
		for v := range want {
			puts(t, q, uint32(v), api.OK)
			holds(t, q, want[:v+1]...)
			holds(t, q, want[:v+1]...)
		}
		for v := range want {
			takes(t, q, uint32(v))
			holds(t, q, want[v+1:]...)
		}
	}
}

// P11.4, R4: what List told is memory of its own, its spare room too.
func TestListIsNewMemory(t *testing.T) {
	everywhere(t, func(q *Queue, most int, row []uint32) {
		one, other := q.List(), q.List()
		one = one[:cap(one)]
		for i := range one {
			one[i] = 77
		}
		if !slices.Equal(other, row) {
			t.Fatalf("another list was changed to %v", other)
		}
		holds(t, q, row...)
		if len(row) > 0 {
			takes(t, q, row[0])
			puts(t, q, 78, api.OK)
			takes(t, q, slices.Concat(row[1:], []uint32{78})[0])
			pushes(t, q, 79, api.OK)
		}
		if !slices.Equal(other, row) {
			t.Fatalf("the queue changed a list to %v", other)
		}
	})
}

// P11.5: what is put, one after the other, is taken so, however often the array is gone round.
func TestTakenAsPut(t *testing.T) {
	for _, most := range []int{1, 2, 3, 7, 63, 64} {
		q := made(t, most)
		var next, first uint32
		for step := range 20 * most {
			for int(next-first) < most-step%2 {
				puts(t, q, next, api.OK)
				next++
			}
			for range 1 + step%5 {
				if first < next {
					takes(t, q, first)
					first++
				}
			}
		}
		for ; first < next; first++ {
			takes(t, q, first)
		}
		hasNone(t, q, api.ErrEmpty)
	}
}

// P11.5: what is pushed is taken ahead of all that was put, ahead or behind it in time, the last one that was pushed first.
func TestPushedIsTakenAhead(t *testing.T) {
	for _, most := range []int{2, 3, 8, 63, 64} {
		for pushed := 1; pushed < most; pushed++ {
			q := made(t, most)
			wander(t, q, pushed)
			for i := range most {
				if i < pushed {
					pushes(t, q, uint32(1000+i), api.OK)
				}
				if i < most-pushed {
					puts(t, q, uint32(i), api.OK)
				}
			}
			for i := pushed - 1; i >= 0; i-- {
				takes(t, q, uint32(1000+i))
			}
			for i := range most - pushed {
				takes(t, q, uint32(i))
			}
			hasNone(t, q, api.ErrEmpty)
		}
	}
}

// All promises: a long run of calls answers as a plain list does.
func TestLongRunAgainstAPlainList(t *testing.T) {
	seed := uint32(1)
	draw := func(below int) int {
		seed = seed*1664525 + 1013904223
		return int(seed>>8) % below
	}
	for _, most := range []int{1, 2, 3, 4, 8, 31, 63, 64} {
		q := made(t, most)
		var row []uint32
		adds := 5
		for i := range 30000 {
			if i%(4*most) == 0 {
				adds = 3 + draw(5) // so that it fills at times, and empties at others
			}
			v := seed
			if draw(3) == 0 {
				v = uint32(draw(3))
			}
			row = step(t, q, most, row, draw(10) < adds, draw(3), v)
			holds(t, q, row...)
		}
	}
}

// step does one call with a queue and the same with a plain list.
func step(t *testing.T, q *Queue, most int, row []uint32, adds bool, call int, v uint32) []uint32 {
	t.Helper()
	full := api.OK
	if len(row) == most {
		full = api.ErrFull
	}
	switch {
	case adds && call == 0:
		pushes(t, q, v, full)
		if full == api.OK {
			return slices.Concat([]uint32{v}, row)
		}
	case adds:
		puts(t, q, v, full)
		if full == api.OK {
			return slices.Concat(row, []uint32{v})
		}
	case len(row) == 0:
		hasNone(t, q, api.ErrEmpty)
	case call == 0:
		peeks(t, q, row[0])
	default:
		takes(t, q, row[0])
		return slices.Clone(row[1:])
	}
	return row
}

// R5: two queues share nothing.
func TestTwoQueues(t *testing.T) {
	one, other := made(t, 2), made(t, 2)
	puts(t, one, 5, api.OK)
	hasNone(t, other, api.ErrEmpty)
	pushes(t, other, 6, api.OK)
	puts(t, other, 7, api.OK)
	isFull(t, other)
	holds(t, one, 5)
	takes(t, other, 6)
	pushes(t, one, 4, api.OK)
	isFull(t, one)
	holds(t, one, 4, 5)
	holds(t, other, 7)
	takes(t, one, 4)
	takes(t, one, 5)
	hasNone(t, one, api.ErrEmpty)
	peeks(t, other, 7)
	holds(t, made(t, 2))
}

// The chapter's examples.
func TestExamples(t *testing.T) {
	q := made(t, 3)
	puts(t, q, 5, api.OK)
	puts(t, q, 5, api.OK)
	pushes(t, q, 4, api.OK)
	puts(t, q, 6, api.ErrFull)
	holds(t, q, 4, 5, 5)
	peeks(t, q, 4)
	takes(t, q, 4)
	takes(t, q, 5)
	takes(t, q, 5)
	if v, e := q.Take(); v != 0 || e != api.ErrEmpty {
		t.Errorf("Take() = %d, error %d, want ErrEmpty", v, e)
	}
	if v, e := q.Peek(); v != 0 || e != api.ErrEmpty {
		t.Errorf("Peek() = %d, error %d, want ErrEmpty", v, e)
	}
	for _, most := range []int{0, 65} {
		if none, e := New(most); none != nil || e != api.ErrArg {
			t.Errorf("New(%d): error %d, want ErrArg", most, e)
		}
	}
}
