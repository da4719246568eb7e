package ready

import (
	"math"
	"slices"
	"testing"

	"timekeeper/api"
)

// one is somebody, and their rank.
type one struct{ who, rank int }

// record is a plain reading of the chapter: those of each rank, the first one first.
type record [api.MaxRank + 1][]int

func (r *record) rankOf(who int) (int, bool) {
	for rank, row := range r {
		if slices.Contains(row, who) {
			return rank, true
		}
	}
	return 0, false
}

func (r *record) first() (int, bool) {
	for rank := api.MaxRank; rank >= 0; rank-- {
		if len(r[rank]) > 0 {
			return r[rank][0], true
		}
	}
	return 0, false
}

// adding is what Put and Push answer.
func (r *record) adding(who, rank int) api.Errno {
	if who < 0 || who > 255 || rank < 0 || rank > 31 {
		return api.ErrArg
	}
	if _, ok := r.rankOf(who); ok {
		return api.ErrState
	}
	return api.OK
}

func (r *record) put(who, rank int) api.Errno {
	e := r.adding(who, rank)
	if e == api.OK {
		r[rank] = slices.Concat(r[rank], []int{who})
	}
	return e
}

func (r *record) push(who, rank int) api.Errno {
	e := r.adding(who, rank)
	if e == api.OK {
		r[rank] = slices.Concat([]int{who}, r[rank])
	}
	return e
}

func (r *record) remove(who int) api.Errno {
	rank, ok := r.rankOf(who)
	if !ok {
		return api.ErrArg
	}
	place := slices.Index(r[rank], who)
	r[rank] = slices.Concat(r[rank][:place], r[rank][place+1:])
	return api.OK
}

func (r *record) turn(rank int) api.Errno {
	if rank < 0 || rank > 31 {
		return api.ErrArg
	}
	if len(r[rank]) == 0 {
		return api.ErrEmpty
	}
	r[rank] = slices.Concat(r[rank][1:], r[rank][:1])
	return api.OK
}

// nobodies are numbers that are nobody, some of which are somebody in fewer bits.
func nobodies() []int {
	return []int{
		math.MinInt, math.MinInt + 5, -1 << 32, -1<<32 + 5, math.MinInt32, -65536, -257, -256, -255, -128, -2, -1,
		256, 257, 261, 511, 512, 65535, 65536, math.MaxInt32, 1 << 31, 1 << 32, 1<<32 + 5, 1<<62 + 6, math.MaxInt - 1, math.MaxInt,
	}
}

// noRanks are numbers that are no ranks, some of which are one in fewer bits.
func noRanks() []int {
	return []int{
		math.MinInt, math.MinInt + 2, -1 << 32, -1<<32 + 2, math.MinInt32, -256, -254, -33, -32, -31, -30, -2, -1,
		32, 33, 34, 63, 64, 66, 255, 256, 258, math.MaxInt32, 1 << 31, 1 << 32, 1<<32 + 2, 1<<62 + 2, math.MaxInt - 1, math.MaxInt,
	}
}

func puts(t *testing.T, q *Queue, who, rank int, want api.Errno) {
	t.Helper()
	if e := q.Put(who, rank); e != want {
		t.Fatalf("Put(%d, %d): error %d, want %d", who, rank, e, want)
	}
}

func pushes(t *testing.T, q *Queue, who, rank int, want api.Errno) {
	t.Helper()
	if e := q.Push(who, rank); e != want {
		t.Fatalf("Push(%d, %d): error %d, want %d", who, rank, e, want)
	}
}

func removes(t *testing.T, q *Queue, who int, want api.Errno) {
	t.Helper()
	if e := q.Remove(who); e != want {
		t.Fatalf("Remove(%d): error %d, want %d", who, e, want)
	}
}

func turns(t *testing.T, q *Queue, rank int, want api.Errno) {
	t.Helper()
	if e := q.Turn(rank); e != want {
		t.Fatalf("Turn(%d): error %d, want %d", rank, e, want)
	}
}

// goesFirst tells whether this one runs next.
func goesFirst(t *testing.T, q *Queue, want int) {
	t.Helper()
	if who, ok := q.First(); who != want || !ok {
		t.Fatalf("First() = %d, %t, want %d", who, ok, want)
	}
}

// hasRank tells whether Rank answers so.
func hasRank(t *testing.T, q *Queue, who, want int, isThere bool) {
	t.Helper()
	if rank, ok := q.Rank(who); rank != want || ok != isThere {
		t.Fatalf("Rank(%d) = %d, %t, want %d, %t", who, rank, ok, want, isThere)
	}
}

// stands tells whether those, and nobody else, are there, by each call that tells something.
func stands(t *testing.T, q *Queue, want record) {
	t.Helper()
	for rank, row := range want {
		if got := q.List(rank); !slices.Equal(got, row) {
			t.Fatalf("List(%d) = %v, want %v", rank, got, row)
		}
	}
	for _, rank := range noRanks() {
		if got := q.List(rank); len(got) != 0 {
			t.Fatalf("List(%d) = %v, want none", rank, got)
		}
	}
	for who := range 256 {
		rank, ok := want.rankOf(who)
		hasRank(t, q, who, rank, ok)
	}
	for _, who := range nobodies() {
		hasRank(t, q, who, 0, false)
	}
	first, some := want.first()
	if who, ok := q.First(); who != first || ok != some {
		t.Fatalf("First() = %d, %t, want %d, %t", who, ok, first, some)
	}
}

// asItIs is all that is there.
func asItIs(q *Queue) record {
	var told record
	for rank := range told {
		told[rank] = q.List(rank)
	}
	return told
}

// refusesToAdd tells whether Put and Push both answer this error, and change nothing.
func refusesToAdd(t *testing.T, q *Queue, who, rank int, want api.Errno) {
	t.Helper()
	was := asItIs(q)
	puts(t, q, who, rank, want)
	pushes(t, q, who, rank, want)
	if now := asItIs(q); !slices.EqualFunc(was[:], now[:], slices.Equal) {
		t.Fatalf("Put and Push (%d, %d), which are refused, made %v of %v", who, rank, now, was)
	}
}

// of is a queue with these, put in this order.
func of(t *testing.T, these ...one) *Queue {
	t.Helper()
	q := New()
	for _, it := range these {
		puts(t, q, it.who, it.rank, api.OK)
	}
	return q
}

// row is a queue with those of one rank, put in this order.
func row(t *testing.T, rank int, those ...int) *Queue {
	t.Helper()
	q := New()
	for _, who := range those {
		puts(t, q, who, rank, api.OK)
	}
	return q
}

// upTo is the numbers 0 to many - 1.
func upTo(many int) []int {
	numbers := make([]int, many)
	for i := range numbers {
		numbers[i] = i
	}
	return numbers
}

// P15.1: nobody is there, of no rank; each call says so, and asking changes nothing.
func TestNewHasNobody(t *testing.T) {
	q := New()
	if q == nil {
		t.Fatal("New() is nil")
	}
	if api.MaxRank != 31 {
		t.Fatalf("MaxRank is %d", api.MaxRank)
	}
	for range 2 {
		stands(t, q, record{})
		for who := range 256 {
			removes(t, q, who, api.ErrArg)
		}
		for rank := range 32 {
			turns(t, q, rank, api.ErrEmpty)
		}
	}
	stands(t, q, record{})
}

// P15.2: anybody may be put and pushed at any rank, and is there then.
func TestAddAnybodyAtAnyRank(t *testing.T) {
	for rank := range 32 {
		for _, who := range []int{0, 1, 31, 32, 127, 128, 254, 255} {
			var want record
			want[rank] = []int{who}
			put, pushed := New(), New()
			puts(t, put, who, rank, api.OK)
			pushes(t, pushed, who, rank, api.OK)
			stands(t, put, want)
			stands(t, pushed, want)
		}
	}
	for who := range 256 {
		q := New()
		puts(t, q, who, 3, api.OK)
		goesFirst(t, q, who)
		hasRank(t, q, who, 3, true)
	}
}

// P15.2: who is put is the last one of their rank; nothing of other ranks changes, whether they are greater or less.
func TestPutIsTheLast(t *testing.T) {
	for _, rank := range []int{0, 1, 15, 30, 31} {
		var want record
		q := New()
		for other := range 32 {
			if other != rank {
				puts(t, q, 100+other, other, api.OK)
				want[other] = []int{100 + other}
			}
		}
		for _, who := range []int{7, 255, 0, 9, 3} {
			puts(t, q, who, rank, api.OK)
			want[rank] = append(want[rank], who)
			stands(t, q, want)
		}
	}
}

// P15.2: who is pushed is the first one of their rank, likewise.
func TestPushIsTheFirst(t *testing.T) {
	for _, rank := range []int{0, 1, 15, 30, 31} {
		var want record
		q := New()
		for other := range 32 {
			if other != rank {
				puts(t, q, 100+other, other, api.OK)
				puts(t, q, 200+other, other, api.OK)
				want[other] = []int{100 + other, 200 + other}
			}
		}
		for _, who := range []int{7, 255, 0, 9, 3} {
			pushes(t, q, who, rank, api.OK)
			want[rank] = slices.Insert(want[rank], 0, who)
			stands(t, q, want)
		}
	}
}

// P15.2: Put and Push by turns, at the same rank.
func TestPutAndPush(t *testing.T) {
	q := New()
	puts(t, q, 1, 4, api.OK)
	pushes(t, q, 2, 4, api.OK)
	puts(t, q, 3, 4, api.OK)
	pushes(t, q, 4, 4, api.OK)
	stands(t, q, record{4: {4, 2, 1, 3}})
	turns(t, q, 4, api.OK)
	pushes(t, q, 5, 4, api.OK)
	puts(t, q, 6, 4, api.OK)
	stands(t, q, record{4: {5, 2, 1, 3, 4, 6}})
}

// P15.2, R2: who is nobody, and what is no rank, are refused, whoever is there, and nothing is changed.
func TestAddErrArg(t *testing.T) {
	for _, q := range []*Queue{New(), of(t, one{0, 0}), of(t, one{5, 2}, one{6, 2}, one{7, 1}, one{255, 31})} {
		for _, who := range nobodies() {
			for _, rank := range []int{0, 1, 2, 30, 31} {
				refusesToAdd(t, q, who, rank, api.ErrArg)
			}
			for _, rank := range noRanks() {
				refusesToAdd(t, q, who, rank, api.ErrArg)
			}
		}
		for _, rank := range noRanks() {
			for _, who := range []int{0, 1, 5, 128, 255} {
				refusesToAdd(t, q, who, rank, api.ErrArg)
			}
		}
	}
}

// P15.2: who is there is refused, at their rank and at any other; what is no rank is told ahead of that.
func TestAddErrState(t *testing.T) {
	q := of(t, one{5, 2}, one{6, 2}, one{0, 2}, one{7, 1}, one{255, 31}, one{9, 0})
	want := record{2: {5, 6, 0}, 1: {7}, 31: {255}, 0: {9}}
	for _, who := range []int{5, 6, 0, 7, 255, 9} {
		for rank := range 32 {
			refusesToAdd(t, q, who, rank, api.ErrState)
		}
		for _, rank := range noRanks() {
			refusesToAdd(t, q, who, rank, api.ErrArg)
		}
	}
	stands(t, q, want)
	for range 4 { // who was pushed, or turned, is there as well
		pushes(t, q, 8, 2, api.OK)
		turns(t, q, 2, api.OK)
		refusesToAdd(t, q, 8, 2, api.ErrState)
		refusesToAdd(t, q, 8, 3, api.ErrState)
		removes(t, q, 8, api.OK)
	}
	stands(t, q, want)
}

// R2, R3: of a queue that is not there ErrNil is told, ahead of all else, and nobody; the calls do nothing: a zero struct is still none behind them.
func TestNotThere(t *testing.T) {
	for _, q := range []*Queue{nil, {}} {
		for range 2 {
			for _, who := range append(nobodies(), 0, 1, 5, 255) {
				for _, rank := range append(noRanks(), 0, 2, 31) {
					puts(t, q, who, rank, api.ErrNil)
					pushes(t, q, who, rank, api.ErrNil)
				}
				removes(t, q, who, api.ErrNil)
			}
			for _, rank := range append(noRanks(), upTo(32)...) {
				turns(t, q, rank, api.ErrNil)
			}
			stands(t, q, record{})
		}
	}
}

// P15.3: the first one, each one in the midst, the last one and the only one of a rank are removed; the others stand as they stood.
func TestRemove(t *testing.T) {
	for _, rank := range []int{0, 1, 16, 30, 31} {
		for many := 1; many <= 5; many++ {
			those := []int{40, 255, 0, 30, 20}[:many]
			for place, who := range those {
				want := record{}
				q := New()
				for _, other := range []int{rank - 1, rank + 1} {
					if other >= 0 && other <= 31 {
						puts(t, q, 100+other, other, api.OK)
						want[other] = []int{100 + other}
					}
				}
				for _, each := range those {
					puts(t, q, each, rank, api.OK)
				}
				removes(t, q, who, api.OK)
				want[rank] = slices.Concat(those[:place], those[place+1:])
				stands(t, q, want)
				removes(t, q, who, api.ErrArg)
				stands(t, q, want)
			}
		}
	}
}

// P15.3, R2: who is not there is refused: who is nobody, who was never put, who was put in vain, who was removed.
func TestRemoveRefuses(t *testing.T) {
	q := of(t, one{5, 2}, one{6, 2}, one{7, 1})
	want := record{2: {5, 6}, 1: {7}}
	puts(t, q, 8, 32, api.ErrArg)
	pushes(t, q, 9, -1, api.ErrArg)
	for _, who := range append(nobodies(), 0, 1, 2, 4, 8, 9, 254, 255) {
		removes(t, q, who, api.ErrArg)
	}
	stands(t, q, want)
	removes(t, q, 5, api.OK)
	removes(t, q, 5, api.ErrArg)
	removes(t, q, 6, api.OK)
	removes(t, q, 6, api.ErrArg)
	stands(t, q, record{1: {7}})
}

// P15.3: all are removed, in each order of three over one, two and three ranks, and nobody is there.
func TestRemoveAll(t *testing.T) {
	for _, order := range [][3]int{{1, 2, 3}, {1, 3, 2}, {2, 1, 3}, {2, 3, 1}, {3, 1, 2}, {3, 2, 1}} {
		for _, ranks := range [][3]int{{4, 4, 4}, {4, 9, 4}, {31, 0, 15}} {
			q, r := New(), &record{}
			for i, rank := range ranks {
				puts(t, q, i+1, rank, r.put(i+1, rank))
			}
			for _, who := range order {
				removes(t, q, who, api.OK)
				r.remove(who)
				stands(t, q, *r)
			}
			stands(t, q, record{})
			for rank := range 32 {
				turns(t, q, rank, api.ErrEmpty)
			}
		}
	}
}

// P15.2, P15.3: who was removed may be put, and pushed, again, at the same rank and at another one.
func TestAddAgain(t *testing.T) {
	q := of(t, one{5, 2}, one{6, 2}, one{7, 1})
	removes(t, q, 5, api.OK)
	puts(t, q, 5, 2, api.OK)
	stands(t, q, record{2: {6, 5}, 1: {7}})
	removes(t, q, 5, api.OK)
	pushes(t, q, 5, 2, api.OK)
	stands(t, q, record{2: {5, 6}, 1: {7}})
	removes(t, q, 5, api.OK)
	puts(t, q, 5, 1, api.OK)
	stands(t, q, record{2: {6}, 1: {7, 5}})
	removes(t, q, 6, api.OK)
	pushes(t, q, 6, 31, api.OK)
	stands(t, q, record{31: {6}, 1: {7, 5}})
	removes(t, q, 7, api.OK)
	pushes(t, q, 7, 0, api.OK)
	stands(t, q, record{31: {6}, 1: {5}, 0: {7}})
	for rank := range 32 {
		removes(t, q, 6, api.OK)
		puts(t, q, 6, rank, api.OK)
		hasRank(t, q, 6, rank, true)
	}
}

// P15.4: the first one is the last one, over and over; nothing of other ranks changes.
func TestTurn(t *testing.T) {
	for _, rank := range []int{0, 1, 16, 30, 31} {
		for many := 1; many <= 5; many++ {
			those := []int{40, 255, 0, 30, 20}[:many]
			q := row(t, rank, those...)
			want := record{}
			for _, other := range []int{rank - 1, rank + 1} {
				if other >= 0 && other <= 31 {
					puts(t, q, 100+other, other, api.OK)
					puts(t, q, 200+other, other, api.OK)
					want[other] = []int{100 + other, 200 + other}
				}
			}
			for turn := 1; turn <= 2*many; turn++ {
				turns(t, q, rank, api.OK)
				first := turn % many
				want[rank] = slices.Concat(those[first:], those[:first])
				stands(t, q, want)
			}
		}
	}
}

// P15.4: of several ErrNil is told first (TestNotThere), then ErrArg of what is no rank, then ErrEmpty; nothing is changed.
func TestTurnRefuses(t *testing.T) {
	for _, r := range []record{{}, {0: {4, 8}}, {31: {4, 8}}, {2: {5, 6}, 1: {7}, 30: {0, 255}}} {
		q := New()
		for rank, those := range r {
			for _, who := range those {
				puts(t, q, who, rank, api.OK)
			}
		}
		for _, rank := range noRanks() {
			turns(t, q, rank, api.ErrArg)
		}
		for rank := range 32 {
			if len(r[rank]) == 0 {
				turns(t, q, rank, api.ErrEmpty)
			}
		}
		stands(t, q, r)
	}
}

// P15.4: a rank whose ones were removed has nobody again.
func TestTurnOfARankThatWasLeft(t *testing.T) {
	q := of(t, one{5, 2}, one{6, 2}, one{7, 1})
	turns(t, q, 2, api.OK)
	removes(t, q, 5, api.OK)
	turns(t, q, 2, api.OK)
	stands(t, q, record{2: {6}, 1: {7}})
	removes(t, q, 6, api.OK)
	turns(t, q, 2, api.ErrEmpty)
	stands(t, q, record{1: {7}})
	puts(t, q, 5, 2, api.OK)
	turns(t, q, 2, api.OK)
	stands(t, q, record{2: {5}, 1: {7}})
}

// P15.5: who runs next behind each call: nobody, one rank, several; a less rank waits for its turn, however early it was put.
func TestFirst(t *testing.T) {
	q := New()
	if who, ok := q.First(); who != 0 || ok {
		t.Fatalf("First() = %d, %t of nobody", who, ok)
	}
	puts(t, q, 9, 0, api.OK)
	goesFirst(t, q, 9)
	puts(t, q, 8, 0, api.OK)
	goesFirst(t, q, 9)
	pushes(t, q, 7, 0, api.OK)
	goesFirst(t, q, 7)
	puts(t, q, 0, 5, api.OK)
	goesFirst(t, q, 0)
	pushes(t, q, 6, 4, api.OK)
	goesFirst(t, q, 0)
	puts(t, q, 1, 5, api.OK)
	goesFirst(t, q, 0)
	turns(t, q, 5, api.OK)
	goesFirst(t, q, 1)
	turns(t, q, 0, api.OK)
	goesFirst(t, q, 1)
	pushes(t, q, 255, 31, api.OK)
	goesFirst(t, q, 255)
	for _, gone := range []struct{ who, next int }{{6, 255}, {255, 1}, {1, 0}, {0, 9}, {8, 9}, {9, 7}} {
		removes(t, q, gone.who, api.OK)
		goesFirst(t, q, gone.next)
	}
	removes(t, q, 7, api.OK)
	if who, ok := q.First(); who != 0 || ok {
		t.Fatalf("First() = %d, %t of nobody any more", who, ok)
	}
}

// P15.5: of any two ranks the greater one goes first, whichever was put first.
func TestFirstOfEachTwoRanks(t *testing.T) {
	for less := range 32 {
		for greater := less + 1; greater < 32; greater++ {
			for _, q := range []*Queue{of(t, one{3, less}, one{2, greater}), of(t, one{2, greater}, one{3, less})} {
				goesFirst(t, q, 2)
				removes(t, q, 2, api.OK)
				goesFirst(t, q, 3)
				removes(t, q, 3, api.OK)
				stands(t, q, record{})
			}
		}
	}
}

// P15.5: the rank of who is there, whatever turns, and none of who is not.
func TestRank(t *testing.T) {
	q := New()
	for who := range 256 {
		if who%3 != 0 {
			puts(t, q, who, who%32, api.OK)
		}
	}
	for round := range 3 {
		for who := range 256 {
			if who%3 != 0 {
				hasRank(t, q, who, who%32, true)
			} else {
				hasRank(t, q, who, 0, false)
			}
		}
		turns(t, q, 7*round, api.OK)
	}
	hasRank(t, q, 32, 0, true) // of the rank 0, unlike who is not there
	removes(t, q, 32, api.OK)
	hasRank(t, q, 32, 0, false)
	for _, who := range nobodies() {
		hasRank(t, q, who, 0, false)
	}
}

// P15.5, R4: what List answers is memory of its own, spare room too: neither the queue nor another answer changes with it, nor it with them.
func TestListIsNewMemory(t *testing.T) {
	for many := range 10 {
		those := upTo(many)
		q := row(t, 3, those...)
		puts(t, q, 99, 2, api.OK)
		mine, other := q.List(3), q.List(3)
		mine = mine[:cap(mine)]
		for i := range mine {
			mine[i] = 77
		}
		if !slices.Equal(other, those) {
			t.Fatalf("another list was changed to %v", other)
		}
		stands(t, q, record{3: those, 2: {99}})
		puts(t, q, 50, 3, api.OK)
		turns(t, q, 3, api.OK)
		pushes(t, q, 51, 3, api.OK)
		removes(t, q, 50, api.OK)
		if !slices.Equal(other, those) {
			t.Fatalf("the queue changed a list to %v", other)
		}
		for _, who := range mine {
			if who != 77 {
				t.Fatalf("the queue changed a list to %v", mine)
			}
		}
	}
}

// R5: two queues share nothing.
func TestTwoShareNothing(t *testing.T) {
	q, other := New(), New()
	puts(t, q, 5, 2, api.OK)
	puts(t, q, 6, 2, api.OK)
	stands(t, other, record{})
	puts(t, other, 5, 2, api.OK)
	pushes(t, other, 6, 2, api.OK)
	puts(t, other, 7, 31, api.OK)
	stands(t, q, record{2: {5, 6}})
	turns(t, q, 2, api.OK)
	turns(t, q, 2, api.OK)
	turns(t, q, 2, api.OK)
	removes(t, other, 7, api.OK)
	stands(t, q, record{2: {6, 5}})
	stands(t, other, record{2: {6, 5}})
	removes(t, other, 5, api.OK)
	removes(t, other, 6, api.OK)
	stands(t, q, record{2: {6, 5}})
	stands(t, other, record{})
	stands(t, New(), record{})
}

// P15.2 to P15.5: everybody is of one rank: there is room for all, and each is refused at all ranks.
func TestAllInOneRank(t *testing.T) {
	for _, rank := range []int{0, 17, 31} {
		q, back := New(), New()
		for who := range 256 {
			puts(t, q, who, rank, api.OK)
			pushes(t, back, who, rank, api.OK)
		}
		want := record{}
		want[rank] = upTo(256)
		stands(t, q, want)
		backwards := record{}
		backwards[rank] = upTo(256)
		slices.Reverse(backwards[rank])
		stands(t, back, backwards)
		for _, who := range []int{0, 1, 128, 254, 255} {
			refusesToAdd(t, q, who, rank, api.ErrState)
			refusesToAdd(t, q, who, 31-rank, api.ErrState)
		}
		refusesToAdd(t, q, 256, rank, api.ErrArg)
		for who := range 256 {
			goesFirst(t, q, who)
			turns(t, q, rank, api.OK)
		}
		stands(t, q, want)
		for who := range 256 {
			goesFirst(t, q, who)
			removes(t, q, who, api.OK)
			goesFirst(t, back, 255-who)
			removes(t, back, 255-who, api.OK)
		}
		stands(t, q, record{})
		stands(t, back, record{})
	}
}

// P15.2 to P15.5: everybody is there, eight of each rank, put in an order of no rank; they go by their ranks, and those of a rank as they were put.
func TestAllOverAllRanks(t *testing.T) {
	q, r := New(), &record{}
	for i := range 256 {
		who := i * 37 % 256
		rank := who * 5 % 32
		puts(t, q, who, rank, r.put(who, rank))
	}
	stands(t, q, *r)
	for rank := range 32 {
		if len(r[rank]) != 8 {
			t.Fatalf("%d are of rank %d", len(r[rank]), rank)
		}
		for range rank % 8 {
			turns(t, q, rank, r.turn(rank))
		}
	}
	stands(t, q, *r)
	for rank := 31; rank >= 0; rank-- {
		for _, who := range r[rank] {
			goesFirst(t, q, who)
			removes(t, q, who, api.OK)
		}
		r[rank] = nil
		stands(t, q, *r)
	}
}

// step does one call with a queue and the same with the record.
func (r *record) step(t *testing.T, q *Queue, call, who, rank int) {
	t.Helper()
	switch {
	case call < 3:
		puts(t, q, who, rank, r.put(who, rank))
	case call < 5:
		pushes(t, q, who, rank, r.push(who, rank))
	case call == 5:
		removes(t, q, who, r.remove(who))
	case call == 6:
		turns(t, q, rank, r.turn(rank))
	default:
		if first, ok := r.first(); ok {
			goesFirst(t, q, first)
			removes(t, q, first, r.remove(first))
		}
	}
}

// All promises: long runs of calls answer as a plain reading of the chapter does, with few and with many, of few ranks and of all, wrong ones among them.
func TestLongRunsAgainstAPlainRecord(t *testing.T) {
	seed := uint32(1)
	draw := func(from, to int) int {
		seed = seed*1664525 + 1013904223
		return from + int(seed>>8)%(to-from+1)
	}
	for _, who := range [][2]int{{0, 1}, {-1, 5}, {0, 30}, {-2, 257}} {
		for _, rank := range [][2]int{{7, 7}, {-1, 2}, {29, 32}, {-1, 32}} {
			q, r := New(), &record{}
			for i := range 1000 {
				calls := 7 // every now and then some go, so that ranks are left, and had again
				if i/100%3 == 2 {
					calls = 15
				}
				r.step(t, q, draw(0, calls), draw(who[0], who[1]), draw(rank[0], rank[1]))
				stands(t, q, *r)
			}
		}
	}
}

// The chapter's examples.
func TestExamples(t *testing.T) {
	q := of(t, one{5, 2}, one{6, 2}, one{7, 1})
	goesFirst(t, q, 5)
	turns(t, q, 2, api.OK)
	goesFirst(t, q, 6)
	if those := q.List(2); !slices.Equal(those, []int{6, 5}) {
		t.Errorf("List(2) = %v, want 6 5", those)
	}
	puts(t, q, 5, 1, api.ErrState)
	removes(t, q, 9, api.ErrArg)
	turns(t, q, 3, api.ErrEmpty)
}
