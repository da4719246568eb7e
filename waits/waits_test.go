package waits

import (
	"math"
	"slices"
	"testing"

	"timekeeper/api"
)

// one is somebody, and their rank.
type one struct{ who, rank int }

// record is a plain reading of the chapter: those who wait, as they were put; they stand by their ranks, and those of a rank as they were put.
type record []one

func (r record) place(who int) int {
	return slices.IndexFunc(r, func(it one) bool { return it.who == who })
}

// standing is those who wait as they stand, the first one first.
func (r record) standing() record {
	row := slices.Clone(r)
	slices.SortStableFunc(row, func(a, b one) int { return b.rank - a.rank })
	return row
}

// whos is who they are, without their ranks.
func (r record) whos() []int {
	var told []int
	for _, it := range r {
		told = append(told, it.who)
	}
	return told
}

func (r *record) put(who, rank int) api.Errno {
	if who < 0 || rank < 0 || rank > 31 {
		return api.ErrArg
	}
	if r.place(who) >= 0 {
		return api.ErrState
	}
	*r = append(*r, one{who, rank})
	return api.OK
}

func (r *record) remove(who int) api.Errno {
	place := r.place(who)
	if place < 0 {
		return api.ErrArg
	}
	*r = slices.Delete(*r, place, place+1)
	return api.OK
}

func (r *record) change(who, rank int) api.Errno {
	place := r.place(who)
	if place < 0 || rank < 0 || rank > 31 {
		return api.ErrArg
	}
	if (*r)[place].rank != rank {
		r.remove(who)
		r.put(who, rank)
	}
	return api.OK
}

// belowZero are numbers that are nobody, some of which are 0 or above in fewer bits.
func belowZero() []int {
	return []int{
		math.MinInt, math.MinInt + 1, math.MinInt + 5, -1<<32 - 1, -1 << 32, -1<<32 + 1, -1<<32 + 5, math.MinInt32, -65536, -257, -256, -255, -128, -32, -3, -2, -1,
	}
}

// somebodies are numbers that somebody may have, small ones and great ones, some of which are alike in fewer bits.
func somebodies() []int {
	return []int{
		0, 1, 5, 15, 16, 31, 32, 127, 128, 255, 256, 257, 65535, 65536, math.MaxInt32, 1 << 31, 1<<32 - 1, 1 << 32, 1<<32 + 1, 1<<32 + 5, 1<<62 + 5, math.MaxInt - 1, math.MaxInt,
	}
}

// noRanks are numbers that are no ranks, some of which are one in fewer bits.
func noRanks() []int {
	return []int{
		math.MinInt, math.MinInt + 5, -1 << 32, -1<<32 + 5, math.MinInt32, -256, -251, -33, -32, -31, -27, -2, -1,
		32, 33, 37, 63, 64, 69, 255, 256, 261, math.MaxInt32, 1 << 31, 1 << 32, 1<<32 + 5, 1<<62 + 5, math.MaxInt - 1, math.MaxInt,
	}
}

func puts(t *testing.T, q *Queue, who, rank int, want api.Errno) {
	t.Helper()
	if e := q.Put(who, rank); e != want {
		t.Fatalf("Put(%d, %d): error %d, want %d", who, rank, e, want)
	}
}

func removes(t *testing.T, q *Queue, who int, want api.Errno) {
	t.Helper()
	if e := q.Remove(who); e != want {
		t.Fatalf("Remove(%d): error %d, want %d", who, e, want)
	}
}

func changes(t *testing.T, q *Queue, who, rank int, want api.Errno) {
	t.Helper()
	if e := q.Change(who, rank); e != want {
		t.Fatalf("Change(%d, %d): error %d, want %d", who, rank, e, want)
	}
}

// tells is whether First and List answer those, in this order.
func tells(t *testing.T, q *Queue, those ...int) {
	t.Helper()
	if got := q.List(); !slices.Equal(got, those) {
		t.Fatalf("List() = %v, want %v", got, those)
	}
	first, some := 0, len(those) > 0
	if some {
		first = those[0]
	}
	if who, ok := q.First(); who != first || ok != some {
		t.Fatalf("First() = %d, %t, want %d, %t", who, ok, first, some)
	}
}

// stands is whether those stand so, with these ranks: who is put of a rank for a moment stands behind all of that rank or a greater one.
func stands(t *testing.T, q *Queue, want ...one) {
	t.Helper()
	tells(t, q, record(want).whos()...)
	stranger := 1 << 40
	for record(want).place(stranger) >= 0 {
		stranger++
	}
	for rank := range 32 {
		puts(t, q, stranger, rank, api.OK)
		place := 0
		for place < len(want) && want[place].rank >= rank {
			place++
		}
		tells(t, q, slices.Insert(record(want).whos(), place, stranger)...)
		removes(t, q, stranger, api.OK)
	}
	tells(t, q, record(want).whos()...)
}

// of is a queue with these, put in this order.
func of(t *testing.T, these ...one) *Queue {
	t.Helper()
	q := New()
	for _, it := range these {
		puts(t, q, it.who, it.rank, api.OK)
	}
	return q
}

// orders is each order of the numbers 0 to many - 1.
func orders(many int) [][]int {
	if many == 0 {
		return [][]int{nil}
	}
	var told [][]int
	for _, order := range orders(many - 1) {
		for place := range many {
			told = append(told, slices.Insert(slices.Clone(order), place, many-1))
		}
	}
	return told
}

// P16.1: nobody is there; each call says so, and asking changes nothing.
func TestNewHasNobody(t *testing.T) {
	q := New()
	if q == nil {
		t.Fatal("New() is nil")
	}
	if api.MaxRank != 31 {
		t.Fatalf("MaxRank is %d", api.MaxRank)
	}
	for range 2 {
		tells(t, q)
		for _, who := range append(somebodies(), belowZero()...) {
			removes(t, q, who, api.ErrArg)
			changes(t, q, who, 5, api.ErrArg)
		}
		stands(t, q)
	}
}

// P16.2: anybody from 0 on may be put with any rank, and is there then, as nobody else is.
func TestPutAnybodyWithAnyRank(t *testing.T) {
	for _, who := range somebodies() {
		for rank := range 32 {
			q := of(t, one{who, rank})
			stands(t, q, one{who, rank})
			for _, other := range append(somebodies(), belowZero()...) {
				if other != who {
					removes(t, q, other, api.ErrArg)
				}
			}
			tells(t, q, who)
		}
	}
}

// P16.2: all of those numbers are somebody each of their own, in one queue.
func TestPutManyNumbers(t *testing.T) {
	q, r := New(), record{}
	for i, who := range somebodies() {
		rank := i * 5 % 32
		puts(t, q, who, rank, r.put(who, rank))
	}
	stands(t, q, r.standing()...)
	for _, who := range somebodies() {
		removes(t, q, who, api.OK)
		r.remove(who)
		tells(t, q, r.standing().whos()...)
	}
}

// P16.2: who is put stands behind all of that rank or a greater one and ahead of all others: with nobody, ahead of all, in the midst, behind all.
func TestPutFindsThePlace(t *testing.T) {
	q := New()
	puts(t, q, 10, 15, api.OK)
	stands(t, q, one{10, 15})
	puts(t, q, 11, 20, api.OK) // ahead of all
	stands(t, q, one{11, 20}, one{10, 15})
	puts(t, q, 12, 3, api.OK) // behind all
	stands(t, q, one{11, 20}, one{10, 15}, one{12, 3})
	puts(t, q, 13, 17, api.OK) // in the midst
	stands(t, q, one{11, 20}, one{13, 17}, one{10, 15}, one{12, 3})
	puts(t, q, 9, 15, api.OK) // behind one of that rank, in the midst
	stands(t, q, one{11, 20}, one{13, 17}, one{10, 15}, one{9, 15}, one{12, 3})
	puts(t, q, 8, 20, api.OK) // likewise, of the greatest rank that is
	stands(t, q, one{11, 20}, one{8, 20}, one{13, 17}, one{10, 15}, one{9, 15}, one{12, 3})
	puts(t, q, 7, 3, api.OK) // likewise, of the least rank that is
	stands(t, q, one{11, 20}, one{8, 20}, one{13, 17}, one{10, 15}, one{9, 15}, one{12, 3}, one{7, 3})
	puts(t, q, 6, 31, api.OK)
	puts(t, q, 5, 0, api.OK)
	puts(t, q, 4, 31, api.OK)
	puts(t, q, 3, 0, api.OK)
	stands(t, q, one{6, 31}, one{4, 31}, one{11, 20}, one{8, 20}, one{13, 17}, one{10, 15}, one{9, 15}, one{12, 3}, one{7, 3}, one{5, 0}, one{3, 0})
}

// P16.2: several of one rank stand as they were put, whoever they are, of each rank.
func TestPutSeveralOfOneRank(t *testing.T) {
	for rank := range 32 {
		q := New()
		var want []one
		for _, who := range []int{7, math.MaxInt, 0, 9, 3, 8, 1} {
			puts(t, q, who, rank, api.OK)
			want = append(want, one{who, rank})
			tells(t, q, record(want).whos()...)
		}
		stands(t, q, want...)
	}
}

// P16.2: of any two ranks the greater one stands first, whichever was put first.
func TestPutEachTwoRanks(t *testing.T) {
	for less := range 32 {
		for greater := less + 1; greater < 32; greater++ {
			tells(t, of(t, one{1, less}, one{2, greater}), 2, 1)
			tells(t, of(t, one{2, greater}, one{1, less}), 2, 1)
			tells(t, of(t, one{1, greater}, one{2, less}), 1, 2)
			tells(t, of(t, one{2, less}, one{1, greater}), 1, 2)
		}
	}
}

// P16.2: five of them, of different ranks and of like ones, put in each order.
func TestPutInEachOrder(t *testing.T) {
	for _, ranks := range [][5]int{{0, 8, 16, 24, 31}, {4, 4, 9, 9, 9}, {31, 30, 31, 0, 0}, {6, 6, 6, 6, 6}} {
		for _, order := range orders(5) {
			q, r := New(), record{}
			for _, who := range order {
				puts(t, q, who, ranks[who], r.put(who, ranks[who]))
			}
			tells(t, q, r.standing().whos()...)
		}
	}
}

// P16.2, R2: who is below 0, and what is no rank, are refused, whoever is there, and nothing is changed.
func TestPutErrArg(t *testing.T) {
	for _, these := range [][]one{nil, {{0, 0}}, {{5, 31}, {1, 5}, {6, 5}, {7, 0}}} {
		q := of(t, these...)
		for _, who := range belowZero() {
			for _, rank := range append(noRanks(), 0, 1, 5, 30, 31) {
				puts(t, q, who, rank, api.ErrArg)
				tells(t, q, record(these).whos()...)
			}
		}
		for _, rank := range noRanks() {
			for _, who := range somebodies() { // those who are there among them: ErrArg is told ahead of ErrState
				puts(t, q, who, rank, api.ErrArg)
				tells(t, q, record(these).whos()...)
			}
		}
		stands(t, q, these...)
	}
}

// P16.2, R2: who is there already is refused, with the same rank and with any other one, and nothing is changed.
func TestPutErrState(t *testing.T) {
	these := []one{{5, 31}, {1, 7}, {0, 5}, {6, 5}, {math.MaxInt, 5}, {7, 0}}
	q := of(t, these...)
	for _, it := range these {
		for rank := range 32 {
			puts(t, q, it.who, rank, api.ErrState)
			tells(t, q, record(these).whos()...)
		}
		stands(t, q, these...)
	}
	changes(t, q, 0, 9, api.OK) // who is of another rank now is there as well
	for _, rank := range []int{5, 9, 10} {
		puts(t, q, 0, rank, api.ErrState)
	}
	stands(t, q, one{5, 31}, one{0, 9}, one{1, 7}, one{6, 5}, one{math.MaxInt, 5}, one{7, 0})
}

// P16.3: the first one, each one in the midst, the last one and the only one are removed; the others stand as they stood.
func TestRemove(t *testing.T) {
	all := []one{{40, 31}, {0, 9}, {30, 9}, {math.MaxInt, 9}, {20, 0}}
	for many := 1; many <= len(all); many++ {
		for place := range many {
			these := all[:many]
			q := of(t, these...)
			removes(t, q, these[place].who, api.OK)
			want := slices.Concat(these[:place], these[place+1:])
			stands(t, q, want...)
			removes(t, q, these[place].who, api.ErrArg)
			changes(t, q, these[place].who, 3, api.ErrArg)
			stands(t, q, want...)
		}
	}
}

// P16.3: five are removed in each order, and nobody is there in the end.
func TestRemoveInEachOrder(t *testing.T) {
	for _, ranks := range [][5]int{{0, 8, 16, 24, 31}, {4, 4, 9, 9, 9}, {6, 6, 6, 6, 6}} {
		for _, order := range orders(5) {
			q, r := New(), record{}
			for who, rank := range ranks {
				puts(t, q, who, rank, r.put(who, rank))
			}
			for _, who := range order {
				removes(t, q, who, api.OK)
				r.remove(who)
				tells(t, q, r.standing().whos()...)
			}
			tells(t, q)
		}
	}
}

// P16.3, R2: who is not there is refused: who is below 0, who was never put, who was put in vain, who was removed.
func TestRemoveRefuses(t *testing.T) {
	q := of(t, one{2, 7}, one{1, 5}, one{3, 5})
	puts(t, q, 8, 32, api.ErrArg)
	puts(t, q, 9, -1, api.ErrArg)
	for _, who := range append(belowZero(), 0, 4, 7, 8, 9, 32, 1<<32+1, math.MaxInt) {
		removes(t, q, who, api.ErrArg)
		tells(t, q, 2, 1, 3)
	}
	removes(t, q, 1, api.OK)
	removes(t, q, 1, api.ErrArg)
	removes(t, q, 2, api.OK)
	removes(t, q, 2, api.ErrArg)
	stands(t, q, one{3, 5})
}

// P16.2, P16.3: who was removed may be put again, with the same rank and with another one, and stands behind those who stayed.
func TestPutAgain(t *testing.T) {
	q := of(t, one{2, 7}, one{1, 5}, one{3, 5})
	removes(t, q, 1, api.OK)
	puts(t, q, 1, 5, api.OK)
	stands(t, q, one{2, 7}, one{3, 5}, one{1, 5})
	removes(t, q, 1, api.OK)
	puts(t, q, 1, 9, api.OK)
	stands(t, q, one{1, 9}, one{2, 7}, one{3, 5})
	removes(t, q, 2, api.OK)
	puts(t, q, 2, 0, api.OK)
	stands(t, q, one{1, 9}, one{3, 5}, one{2, 0})
	for _, who := range []int{3, 1, 2} {
		removes(t, q, who, api.OK)
	}
	stands(t, q)
	for rank := range 32 { // as the only one
		puts(t, q, 3, rank, api.OK)
		stands(t, q, one{3, rank})
		removes(t, q, 3, api.OK)
		stands(t, q)
	}
}

// P16.3: each one of a queue is changed to each rank: to their own one nothing turns, to another one they stand as if they were removed and put.
func TestChange(t *testing.T) {
	these := []one{{40, 31}, {0, 9}, {30, 9}, {math.MaxInt, 9}, {20, 4}, {21, 4}, {22, 0}}
	for many := 1; many <= len(these); many++ {
		for _, it := range these[:many] {
			for rank := range 32 {
				q := of(t, these[:many]...)
				changes(t, q, it.who, rank, api.OK)
				want := slices.Clone(these[:many])
				if rank != it.rank {
					want = append(slices.DeleteFunc(want, func(other one) bool { return other == it }), one{it.who, rank})
				}
				stands(t, q, record(want).standing()...)
			}
		}
	}
}

// P16.3: by hand: to a greater rank, to a lesser one, there and back; who comes back stands behind those who stayed.
func TestChangeThereAndBack(t *testing.T) {
	q := of(t, one{1, 5}, one{2, 5}, one{3, 5})
	changes(t, q, 2, 6, api.OK)
	stands(t, q, one{2, 6}, one{1, 5}, one{3, 5})
	changes(t, q, 2, 5, api.OK)
	stands(t, q, one{1, 5}, one{3, 5}, one{2, 5})
	changes(t, q, 1, 4, api.OK)
	stands(t, q, one{3, 5}, one{2, 5}, one{1, 4})
	changes(t, q, 1, 5, api.OK)
	stands(t, q, one{3, 5}, one{2, 5}, one{1, 5})
	changes(t, q, 3, 31, api.OK)
	changes(t, q, 1, 31, api.OK)
	stands(t, q, one{3, 31}, one{1, 31}, one{2, 5})
	changes(t, q, 3, 0, api.OK)
	changes(t, q, 2, 0, api.OK)
	stands(t, q, one{1, 31}, one{3, 0}, one{2, 0})
}

// P16.3: another rank may leave the order as it was; it is theirs all the same.
func TestChangeWithoutAMove(t *testing.T) {
	q := of(t, one{1, 20}, one{2, 10}, one{3, 5})
	changes(t, q, 2, 19, api.OK)
	stands(t, q, one{1, 20}, one{2, 19}, one{3, 5})
	changes(t, q, 2, 6, api.OK)
	stands(t, q, one{1, 20}, one{2, 6}, one{3, 5})
	changes(t, q, 2, 20, api.OK)
	stands(t, q, one{1, 20}, one{2, 20}, one{3, 5})
	changes(t, q, 1, 31, api.OK)
	changes(t, q, 3, 0, api.OK)
	stands(t, q, one{1, 31}, one{2, 20}, one{3, 0})
}

// P16.3: to the rank that they have already nothing turns, however often, and of a rank that was changed to, too.
func TestChangeToTheirOwn(t *testing.T) {
	for rank := range 32 {
		these := []one{{5, rank}, {0, rank}, {math.MaxInt, rank}}
		q := of(t, these...)
		for range 3 {
			for _, it := range these {
				changes(t, q, it.who, rank, api.OK)
				tells(t, q, 5, 0, math.MaxInt)
			}
		}
		stands(t, q, these...)
	}
	q := of(t, one{1, 5}, one{2, 7}, one{3, 9})
	changes(t, q, 3, 5, api.OK)
	changes(t, q, 2, 5, api.OK)
	for _, who := range []int{1, 3, 2} {
		changes(t, q, who, 5, api.OK)
		stands(t, q, one{1, 5}, one{3, 5}, one{2, 5})
	}
}

// P16.3, R2: who is not there is refused with any rank, and a rank that may not be of whoever is there; nothing is changed.
func TestChangeRefuses(t *testing.T) {
	these := []one{{40, 31}, {0, 9}, {30, 9}, {20, 0}}
	q := of(t, these...)
	for _, rank := range noRanks() {
		for _, it := range these {
			changes(t, q, it.who, rank, api.ErrArg)
			tells(t, q, 40, 0, 30, 20)
		}
	}
	stands(t, q, these...)
	for _, who := range append(belowZero(), 1, 9, 31, 41, 1<<32, 1<<32+40, math.MaxInt) {
		for _, rank := range append(noRanks(), 0, 9, 20, 31) {
			changes(t, q, who, rank, api.ErrArg)
			tells(t, q, 40, 0, 30, 20)
		}
	}
	stands(t, q, these...)
	removes(t, q, 0, api.OK)
	for _, rank := range []int{0, 9, 31, 32} {
		changes(t, q, 0, rank, api.ErrArg)
	}
	stands(t, q, one{40, 31}, one{30, 9}, one{20, 0})
}

// P16.4: who is first behind each call: with nobody, with one, with several, and with nobody any more; 0 may be.
func TestFirst(t *testing.T) {
	q := New()
	first := func(want int, isThere bool) {
		t.Helper()
		for range 2 { // it stays
			if who, ok := q.First(); who != want || ok != isThere {
				t.Fatalf("First() = %d, %t, want %d, %t", who, ok, want, isThere)
			}
		}
	}
	first(0, false)
	puts(t, q, 9, 3, api.OK)
	first(9, true)
	puts(t, q, 8, 3, api.OK)
	first(9, true)
	puts(t, q, 7, 2, api.OK)
	first(9, true)
	puts(t, q, 0, 4, api.OK)
	first(0, true)
	changes(t, q, 7, 5, api.OK)
	first(7, true)
	changes(t, q, 7, 4, api.OK)
	first(0, true)
	changes(t, q, 0, 4, api.OK)
	first(0, true)
	changes(t, q, 0, 1, api.OK)
	first(7, true)
	removes(t, q, 9, api.OK)
	first(7, true)
	removes(t, q, 7, api.OK)
	first(8, true)
	changes(t, q, 8, 0, api.OK)
	first(0, true)
	removes(t, q, 8, api.OK)
	first(0, true)
	removes(t, q, 0, api.OK)
	first(0, false)
	puts(t, q, -1, 4, api.ErrArg)
	first(0, false)
	puts(t, q, math.MaxInt, 0, api.OK)
	first(math.MaxInt, true)
}

// P16.4, R4: what List answers is memory of its own, spare room too: neither the queue nor another answer changes with it, nor it with them.
func TestListIsNewMemory(t *testing.T) {
	for many := range 10 {
		q, r := New(), record{}
		for who := range many {
			puts(t, q, who, who*7%32, r.put(who, who*7%32))
		}
		those := r.standing().whos()
		mine, other := q.List(), q.List()
		if !slices.Equal(mine, those) {
			t.Fatalf("List() = %v, want %v", mine, those)
		}
		mine = mine[:cap(mine)]
		for i := range mine {
			mine[i] = 77
		}
		if !slices.Equal(other, those) {
			t.Fatalf("another list was changed to %v", other)
		}
		stands(t, q, r.standing()...)
		puts(t, q, 50, 31, api.OK)
		puts(t, q, 51, 0, api.OK)
		changes(t, q, 50, 3, api.OK)
		removes(t, q, 51, api.OK)
		if !slices.Equal(other, those) {
			t.Fatalf("the queue changed a list to %v", other)
		}
		for _, who := range mine {
			if who != 77 {
				t.Fatalf("the queue changed a list to %v", mine)
			}
		}
	}
}

// R2, R3: of a queue that is not there ErrNil is told, ahead of all else, and nobody; the calls do nothing: a zero struct is still none behind them.
func TestNotThere(t *testing.T) {
	for _, q := range []*Queue{nil, {}} {
		for range 2 {
			for _, who := range append(belowZero(), somebodies()...) {
				for _, rank := range append(noRanks(), 0, 5, 31) {
					puts(t, q, who, rank, api.ErrNil)
					changes(t, q, who, rank, api.ErrNil)
				}
				removes(t, q, who, api.ErrNil)
			}
			tells(t, q)
		}
	}
}

// R5: two queues have nothing in common.
func TestTwoShareNothing(t *testing.T) {
	q, other := New(), New()
	puts(t, q, 5, 2, api.OK)
	puts(t, q, 6, 2, api.OK)
	stands(t, other)
	removes(t, other, 5, api.ErrArg)
	changes(t, other, 5, 3, api.ErrArg)
	puts(t, other, 6, 2, api.OK)
	puts(t, other, 5, 2, api.OK)
	puts(t, other, 7, 31, api.OK)
	stands(t, q, one{5, 2}, one{6, 2})
	changes(t, q, 5, 1, api.OK)
	stands(t, q, one{6, 2}, one{5, 1})
	stands(t, other, one{7, 31}, one{6, 2}, one{5, 2})
	removes(t, other, 6, api.OK)
	removes(t, other, 7, api.OK)
	removes(t, other, 5, api.OK)
	stands(t, q, one{6, 2}, one{5, 1})
	stands(t, other)
	stands(t, New())
}

// neverRise is whether the ranks of those in List fall, or stay, from each to the next.
func neverRise(t *testing.T, q *Queue, r record) {
	t.Helper()
	least := 31
	for _, who := range q.List() {
		place := r.place(who)
		if place < 0 {
			t.Fatalf("%d is in List() = %v, and is not there", who, q.List())
		}
		if r[place].rank > least {
			t.Fatalf("%d in List() = %v has rank %d, behind one of rank %d", who, q.List(), r[place].rank, least)
		}
		least = r[place].rank
	}
}

// P16.2 to P16.5: many wait, of all ranks and in an order of no rank; then the ranks of all change.
func TestMany(t *testing.T) {
	const many = 1000
	q, r := New(), record{}
	for i := range many {
		who := i * 371 % many
		rank := who * 5 % 32
		puts(t, q, who, rank, r.put(who, rank))
	}
	tells(t, q, r.standing().whos()...)
	neverRise(t, q, r)
	for who := range many {
		changes(t, q, who, who*11%32, r.change(who, who*11%32))
	}
	stands(t, q, r.standing()...)
	neverRise(t, q, r)
	for _, who := range r.standing().whos() {
		if first, ok := q.First(); first != who || !ok {
			t.Fatalf("First() = %d, %t, want %d", first, ok, who)
		}
		removes(t, q, who, api.OK)
	}
	tells(t, q)
}

// step does one call with a queue and the same with the record.
func (r *record) step(t *testing.T, q *Queue, call, who, rank int) {
	t.Helper()
	switch {
	case call < 4:
		puts(t, q, who, rank, r.put(who, rank))
	case call < 8:
		changes(t, q, who, rank, r.change(who, rank))
	case call < 10:
		removes(t, q, who, r.remove(who))
	default:
		if first, ok := q.First(); ok {
			removes(t, q, first, r.remove(first))
		}
	}
}

// All promises: long runs of calls answer as a plain reading of the chapter does, with few and with many, of few ranks and of all, wrong ones among them; ranks never rise.
func TestLongRunsAgainstAPlainRecord(t *testing.T) {
	seed := uint32(1)
	draw := func(from, to int) int {
		seed = seed*1664525 + 1013904223
		return from + int(seed>>8)%(to-from+1)
	}
	for _, who := range [][2]int{{0, 1}, {-1, 5}, {0, 30}, {-2, 300}} {
		for _, rank := range [][2]int{{7, 7}, {-1, 2}, {29, 32}, {-1, 32}} {
			q, r := New(), record{}
			for i := range 2000 {
				calls := 9 // every now and then more go than come, so that a queue is left, and had again
				if i/100%3 == 2 {
					calls = 15
				}
				r.step(t, q, draw(0, calls), draw(who[0], who[1]), draw(rank[0], rank[1]))
				tells(t, q, r.standing().whos()...)
				neverRise(t, q, r)
				if i%50 == 0 {
					stands(t, q, r.standing()...)
				}
			}
		}
	}
}

// All promises: each run of four calls with three of them and two ranks, from nobody and from three.
func TestEachShortRun(t *testing.T) {
	const calls = 3 * (1 + 2*2) // Remove, and Put and Change with either rank
	for run := range calls * calls * calls * calls {
		for _, start := range [][]one{nil, {{0, 4}, {1, 5}, {2, 4}}} {
			q, r := of(t, start...), slices.Clone(record(start))
			for left, i := run, 0; i < 4; left, i = left/calls, i+1 {
				who, call := left%calls%3, left%calls/3
				kind := []int{8, 0, 0, 4, 4}[call]
				r.step(t, q, kind, who, 4+call%2)
			}
			tells(t, q, r.standing().whos()...)
		}
	}
}

// The chapter's examples.
func TestExamples(t *testing.T) {
	q := of(t, one{1, 5}, one{2, 7}, one{3, 5})
	tells(t, q, 2, 1, 3)
	changes(t, q, 1, 4, api.OK)
	tells(t, q, 2, 3, 1)
	changes(t, q, 3, 5, api.OK)
	tells(t, q, 2, 3, 1)
	puts(t, q, 2, 1, api.ErrState)
}
