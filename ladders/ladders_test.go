package ladders

import (
	"math"
	"slices"
	"testing"

	"timekeeper/api"
)

const top = 1<<32 - 1

// noRanks are numbers that no rank has; some have a rank's lowest bits.
var noRanks = []int{
	math.MinInt, math.MinInt + 3, math.MinInt32, -1 << 32, -1<<32 + 5, -65536, -256, -253, -64, -33, -32, -31, -2, -1,
	32, 33, 34, 63, 64, 65, 95, 127, 128, 255, 256, 257, 65536, 65539, math.MaxInt32, 1 << 32, 1<<32 + 1, 1<<32 + 31, 1 << 62, math.MaxInt - 1, math.MaxInt,
}

// powers are the ladders of one rank, by that rank.
func powers() []uint32 {
	told := []uint32{1}
	for len(told) <= api.MaxRank {
		told = append(told, told[len(told)-1]*2)
	}
	return told
}

// has tells by division alone whether a rank has somebody.
func has(l uint32, rank int) bool { return l/powers()[rank]%2 == 1 }

// asked is a plain list of the ranks that have somebody, the greatest first.
func asked(l uint32) []int {
	var told []int
	for rank := api.MaxRank; rank >= 0; rank-- {
		if has(l, rank) {
			told = append(told, rank)
		}
	}
	return told
}

// some ladders: none, all, all but one, of one rank, of two, of all from or up to one, and long rows of others.
func some() []uint32 {
	told := []uint32{0, top, 0x55555555, 0xaaaaaaaa, 0x0000ffff, 0xffff0000, 0x00ff00ff, 0x80000001, 0x7ffffffe}
	for rank, p := range powers() {
		told = append(told, p, top-p, p-1, top-(p-1))
		for _, q := range powers()[:rank] {
			told = append(told, p+q)
		}
	}
	n := uint32(12345)
	for range 500 {
		n = n*1664525 + 1013904223
		told = append(told, n, n^n>>16)
	}
	return told
}

func sets(t *testing.T, l uint32, rank int, want uint32) {
	t.Helper()
	if got := Set(l, rank); got != want {
		t.Errorf("Set(%#x, %d) = %#x, want %#x", l, rank, got, want)
	}
}

func clears(t *testing.T, l uint32, rank int, want uint32) {
	t.Helper()
	if got := Clear(l, rank); got != want {
		t.Errorf("Clear(%#x, %d) = %#x, want %#x", l, rank, got, want)
	}
}

func firstIs(t *testing.T, l uint32, want int, wantOK bool) {
	t.Helper()
	if got, ok := First(l); got != want || ok != wantOK {
		t.Errorf("First(%#x) = %d, %t, want %d, %t", l, got, ok, want, wantOK)
	}
}

func listIs(t *testing.T, l uint32, want ...int) {
	t.Helper()
	if got := List(l); !slices.Equal(got, want) {
		t.Errorf("List(%#x) = %v, want %v", l, got, want)
	}
}

func TestLimit(t *testing.T) {
	if api.MaxRank != 31 {
		t.Fatal("the greatest rank is 31")
	}
}

// P6.1: each rank, in a ladder in which it has nobody.
func TestSetAndClearOfARankWithNobody(t *testing.T) {
	for rank, p := range powers() {
		sets(t, 0, rank, p)
		clears(t, 0, rank, 0)
		sets(t, top-p, rank, top)
		clears(t, top-p, rank, top-p)
	}
}

// P6.1: each rank, in a ladder in which it has somebody already.
func TestSetAndClearOfARankWithSomebody(t *testing.T) {
	for rank, p := range powers() {
		sets(t, p, rank, p)
		clears(t, p, rank, 0)
		sets(t, top, rank, top)
		clears(t, top, rank, top-p)
	}
}

// P6.1: each rank beside each other one.
func TestSetAndClearBesideAnother(t *testing.T) {
	for rank, p := range powers() {
		for other, q := range powers() {
			if rank != other {
				sets(t, q, rank, p+q)
				clears(t, q, rank, q)
				clears(t, p+q, rank, q)
			}
		}
	}
}

// P6.1: a number that no rank has leaves the ladder as it was.
func TestSetAndClearOfNoRank(t *testing.T) {
	for _, l := range some() {
		for _, rank := range noRanks {
			sets(t, l, rank, l)
			clears(t, l, rank, l)
		}
	}
	for rank := -3000; rank <= 3000; rank++ {
		if rank < 0 || rank > api.MaxRank {
			sets(t, 0, rank, 0)
			clears(t, top, rank, top)
		}
	}
}

// P6.2: there is no first one, where none has somebody.
func TestFirstOfNone(t *testing.T) { firstIs(t, 0, 0, false) }

// P6.2: of one rank it is that one, the rank 0 too.
func TestFirstOfOne(t *testing.T) {
	for rank, p := range powers() {
		firstIs(t, p, rank, true)
	}
}

// P6.2: of several it is the greatest, whoever else is below.
func TestFirstIsTheGreatest(t *testing.T) {
	firstIs(t, top, 31, true)
	for rank, p := range powers() {
		firstIs(t, p+(p-1), rank, true)
		for _, q := range powers()[:rank] {
			firstIs(t, p+q, rank, true)
		}
	}
	for _, l := range some() {
		if want := asked(l); len(want) > 0 {
			firstIs(t, l, want[0], true)
		}
	}
}

// P6.3: none, one, two and all of them.
func TestList(t *testing.T) {
	listIs(t, 0)
	var all []int
	for rank, p := range powers() {
		listIs(t, p, rank)
		for other, q := range powers()[:rank] {
			listIs(t, p+q, rank, other)
		}
		all = append(all, rank)
	}
	slices.Reverse(all)
	listIs(t, top, all...)
}

// P6.3: against a plain list, and that it falls, so that it tells each rank once.
func TestListFalls(t *testing.T) {
	for _, l := range some() {
		got := List(l)
		if !slices.Equal(got, asked(l)) {
			t.Errorf("List(%#x) = %v, want %v", l, got, asked(l))
		}
		for i := 1; i < len(got); i++ {
			if got[i-1] <= got[i] {
				t.Errorf("List(%#x) = %v does not fall", l, got)
			}
		}
	}
}

// P6.3, R4: what was told is memory of its own, its spare room too.
func TestListIsNew(t *testing.T) {
	for _, l := range some() {
		first, second := List(l), List(l)
		for i := range first[:cap(first)] {
			first[:cap(first)][i] = -1
		}
		_ = append(first, 77)
		listIs(t, l, second...)
		listIs(t, l, asked(l)...)
		if !slices.Equal(second, asked(l)) {
			t.Errorf("List(%#x) shares its memory: %v", l, second)
		}
	}
}

// P6.4: First is the first of List.
func TestFirstIsTheFirstOfList(t *testing.T) {
	for _, l := range some() {
		list := List(l)
		rank, ok := First(l)
		if ok != (len(list) > 0) || ok && rank != list[0] || !ok && rank != 0 {
			t.Errorf("First(%#x) = %d, %t, List is %v", l, rank, ok, list)
		}
	}
}

// P6.4: what is set is there, what is cleared is not, all others stay.
func TestOthersStay(t *testing.T) {
	for _, l := range some() {
		for rank := 0; rank <= api.MaxRank; rank++ {
			set, cleared := List(Set(l, rank)), List(Clear(l, rank))
			for other := 0; other <= api.MaxRank; other++ {
				inSet, inCleared := slices.Contains(set, other), slices.Contains(cleared, other)
				wantSet, wantCleared := has(l, other) || other == rank, has(l, other) && other != rank
				if inSet != wantSet || inCleared != wantCleared {
					t.Fatalf("%#x, rank %d, other %d: set %t, cleared %t, want %t, %t", l, rank, other, inSet, inCleared, wantSet, wantCleared)
				}
			}
		}
	}
}

// P6.4: a cleared one set again, and a set one cleared again.
func TestThereAndBack(t *testing.T) {
	for _, l := range some() {
		for rank := 0; rank <= api.MaxRank; rank++ {
			if has(l, rank) {
				sets(t, Clear(l, rank), rank, l)
			} else {
				clears(t, Set(l, rank), rank, l)
			}
			sets(t, Set(l, rank), rank, Set(l, rank))
			clears(t, Clear(l, rank), rank, Clear(l, rank))
		}
	}
}

// P6.4: a ladder is made of its list, and taken down by its first ones.
func TestBuiltAndTakenDown(t *testing.T) {
	for _, l := range some() {
		built := uint32(0)
		for _, rank := range List(l) {
			built = Set(built, rank)
		}
		if built != l {
			t.Errorf("of List(%#x) comes %#x", l, built)
		}
		left, steps := l, 0
		for rank, ok := First(left); ok && steps <= 32; rank, ok = First(left) {
			left = Clear(left, rank)
			steps++
		}
		if left != 0 || steps != len(asked(l)) {
			t.Errorf("%#x: %d ranks taken, %#x is left", l, steps, left)
		}
	}
}

// P6.3: going through the ranks may stop early, and begins anew each time.
func TestRanksStopAndBeginAnew(t *testing.T) {
	all := ranks(12)
	for range 3 {
		var seen []int
		for rank := range all {
			seen = append(seen, rank)
			break
		}
		if !slices.Equal(seen, []int{3}) || !slices.Equal(slices.Collect(all), []int{3, 2}) {
			t.Fatalf("ranks of 12: %v, then %v", seen, slices.Collect(all))
		}
	}
}

func TestExamples(t *testing.T) {
	sets(t, 0, 3, 8)
	sets(t, 8, 3, 8)
	sets(t, 0, 32, 0)
	sets(t, 0, -1, 0)
	clears(t, 12, 3, 4)
	clears(t, 8, 4, 8)
	firstIs(t, 12, 3, true)
	firstIs(t, 0, 0, false)
	firstIs(t, top, 31, true)
	listIs(t, 1<<31+5, 31, 2, 0)
}
