package handles

import (
	"math"
	"slices"
	"testing"

	"timekeeper/api"
)

const (
	top         = 1<<32 - 1
	generations = 1<<24 - 1 // that a place has in all
)

func made(t *testing.T, most int) *Table {
	t.Helper()
	x, e := New(most)
	if e != api.OK || x == nil {
		t.Fatalf("New(%d): %v, error %d", most, x, e)
	}
	return x
}

// filled is a table of so many places, each of which has its first handle.
func filled(t *testing.T, most int) *Table {
	t.Helper()
	x := made(t, most)
	for place := range most {
		makes(t, x, 256+uint32(place))
	}
	return x
}

func makes(t *testing.T, x *Table, want uint32) {
	t.Helper()
	if h, e := x.Make(); h != want || e != api.OK {
		t.Fatalf("Make() = %d, error %d, want %d", h, e, want)
	}
}

func makesNone(t *testing.T, x *Table, want api.Errno) {
	t.Helper()
	if h, e := x.Make(); h != 0 || e != want {
		t.Fatalf("Make() = %d, error %d, want error %d", h, e, want)
	}
}

func stands(t *testing.T, x *Table, h uint32, want int) {
	t.Helper()
	if place, e := x.Place(h); place != want || e != api.OK {
		t.Fatalf("Place(%d) = %d, error %d, want %d", h, place, e, want)
	}
}

func drops(t *testing.T, x *Table, h uint32) {
	t.Helper()
	if e := x.Drop(h); e != api.OK {
		t.Fatalf("Drop(%d): error %d", h, e)
	}
}

// refuses tells whether Place and Drop both answer this error, and change nothing.
func refuses(t *testing.T, x *Table, h uint32, want api.Errno) {
	t.Helper()
	before := x.List()
	if place, e := x.Place(h); place != 0 || e != want {
		t.Fatalf("Place(%d) = %d, error %d, want error %d", h, place, e, want)
	}
	if e := x.Drop(h); e != want {
		t.Fatalf("Drop(%d): error %d, want %d", h, e, want)
	}
	holds(t, x, before...)
}

func holds(t *testing.T, x *Table, want ...uint32) {
	t.Helper()
	if got := x.List(); !slices.Equal(got, want) {
		t.Fatalf("List() = %v, want %v", got, want)
	}
}

// upTo is the first handles of the places 0 to many - 1.
func upTo(many int) []uint32 {
	told := make([]uint32, many)
	for place := range told {
		told[place] = 256 + uint32(place)
	}
	return told
}

// useUp makes and drops all handles of the least place that is free but the last one, which it makes and answers.
func useUp(t *testing.T, x *Table, place uint32) uint32 {
	t.Helper()
	for generation := uint32(1); generation < generations; generation++ {
		want := 256*generation + place
		if h, e := x.Make(); h != want || e != api.OK {
			t.Fatalf("Make() = %d, error %d, want %d", h, e, want)
		}
		if e := x.Drop(want); e != api.OK {
			t.Fatalf("Drop(%d): error %d", want, e)
		}
	}
	last := uint32(256*generations) + place
	makes(t, x, last)
	return last
}

// P8.1: so many places, no fewer and no more, from 0 on, all of which are free.
func TestNewHasAllPlacesFree(t *testing.T) {
	for most := 1; most <= 256; most++ {
		x := made(t, most)
		holds(t, x)
		for place := range most {
			makes(t, x, 256+uint32(place))
			stands(t, x, 256+uint32(place), place)
		}
		makesNone(t, x, api.ErrMany)
		holds(t, x, upTo(most)...)
	}
}

// P8.1: no fewer than 1, no more than 256.
func TestNewRefuses(t *testing.T) {
	for _, most := range []int{math.MinInt, math.MinInt32, -1 << 32, -257, -256, -2, -1, 0, 257, 258, 512, 1024, 1<<32 + 1, math.MaxInt32, math.MaxInt} {
		if x, e := New(most); x != nil || e != api.ErrArg {
			t.Errorf("New(%d): %v, error %d, want ErrArg", most, x, e)
		}
	}
}

// P8.2: with no place free nothing is made, however often it is asked, and nothing is changed.
func TestMakeRefuses(t *testing.T) {
	for _, most := range []int{1, 2, 3, 255, 256} {
		x := filled(t, most)
		for range 300 {
			makesNone(t, x, api.ErrMany)
		}
		holds(t, x, upTo(most)...)
		last := 256 + uint32(most) - 1
		drops(t, x, last)
		makes(t, x, last+256)
		makesNone(t, x, api.ErrMany)
	}
}

// P8.2: behind a Drop the place has its next handle, one generation later, whichever place it is.
func TestMakeBehindADrop(t *testing.T) {
	for _, most := range []int{1, 2, 5, 256} {
		for place := range most {
			x := filled(t, most)
			want := upTo(most)
			for generation := uint32(1); generation < 6; generation++ {
				h := 256*generation + uint32(place)
				drops(t, x, h)
				makes(t, x, h+256)
				stands(t, x, h+256, place)
				want[place] = h + 256
				holds(t, x, want...)
				makesNone(t, x, api.ErrMany)
			}
		}
	}
}

// P8.2: of several places that are free the least one is taken, in whatever order they were dropped, one that was never used among them.
func TestMakeTakesTheLeast(t *testing.T) {
	for _, order := range [][]uint32{{1, 3, 4}, {1, 4, 3}, {3, 1, 4}, {3, 4, 1}, {4, 1, 3}, {4, 3, 1}} {
		x := made(t, 8)
		for place := range uint32(6) {
			makes(t, x, 256+place)
		}
		for _, place := range order {
			drops(t, x, 256+place)
		}
		holds(t, x, 256, 258, 261)
		for _, h := range []uint32{513, 515, 516, 262, 263} {
			makes(t, x, h)
		}
		makesNone(t, x, api.ErrMany)
		holds(t, x, 256, 513, 258, 515, 516, 261, 262, 263)
	}
}

// P8.2: places grow old each for itself: one that was used little has an early generation beside others that were used much.
func TestEachPlaceHasItsGeneration(t *testing.T) {
	x := made(t, 4)
	for range 10 {
		h, e := x.Make()
		if e != api.OK || x.Drop(h) != api.OK {
			t.Fatalf("Make() = %d, error %d", h, e)
		}
	}
	makes(t, x, 256*11)
	makes(t, x, 257)
	drops(t, x, 257)
	makes(t, x, 513)
	makes(t, x, 258)
	drops(t, x, 256*11)
	makes(t, x, 256*12)
	makes(t, x, 259)
	holds(t, x, 256*12, 513, 258, 259)
}

// P8.3, P8.4: of a place that is used, each generation behind its own is stale, and each ahead of it is none.
func TestGenerationsOfAPlace(t *testing.T) {
	for _, most := range []int{1, 3, 256} {
		x := filled(t, most)
		place := most - 1
		for generation := uint32(1); generation < 9; generation++ {
			h := 256*generation + uint32(place)
			refuses(t, x, uint32(place), api.ErrHandle)
			for old := uint32(1); old < generation; old++ {
				refuses(t, x, 256*old+uint32(place), api.ErrStale)
			}
			stands(t, x, h, place)
			for _, newer := range []uint32{generation + 1, generation + 2, 256, 1 << 16, 1 << 23, generations} {
				refuses(t, x, 256*newer+uint32(place), api.ErrHandle)
			}
			drops(t, x, h)
			refuses(t, x, h, api.ErrStale)
			refuses(t, x, h+256, api.ErrHandle)
			makes(t, x, h+256)
		}
	}
}

// P8.3, P8.4: of a place that the table does not have, and of one that it has not used yet, there is no handle.
func TestPlacesWithoutHandles(t *testing.T) {
	for _, most := range []int{1, 2, 5, 255, 256} {
		for _, used := range []int{0, 1, most - 1, most} {
			if used > most {
				continue
			}
			x := made(t, most)
			for place := range used {
				makes(t, x, 256+uint32(place))
			}
			for place := used; place < 256; place++ {
				for _, generation := range []uint32{0, 1, 2, 3, 1 << 12, 1 << 23, generations} {
					refuses(t, x, 256*generation+uint32(place), api.ErrHandle)
				}
			}
			holds(t, x, upTo(used)...)
		}
	}
}

// P8.3, P8.4: no number below 256 is a handle, 0 among them, be its place used or not.
func TestNoHandleBelowTheFirst(t *testing.T) {
	fresh, full := made(t, 256), filled(t, 256)
	for h := range uint32(256) {
		refuses(t, fresh, h, api.ErrHandle)
		refuses(t, full, h, api.ErrHandle)
		drops(t, full, 256+h)
		refuses(t, full, h, api.ErrHandle)
		makes(t, full, 512+h)
	}
	refuses(t, fresh, top, api.ErrHandle)
	refuses(t, full, top, api.ErrHandle)
}

// P8.3: asking for a place does not change the table.
func TestPlaceChangesNothing(t *testing.T) {
	x := filled(t, 3)
	drops(t, x, 257)
	for range 3 {
		stands(t, x, 256, 0)
		stands(t, x, 258, 2)
		refuses(t, x, 257, api.ErrStale)
		holds(t, x, 256, 258)
	}
	makes(t, x, 513)
	makesNone(t, x, api.ErrMany)
}

// P8.4: what is dropped is gone, and the others are as they were.
func TestDropLeavesTheOthers(t *testing.T) {
	for _, most := range []int{1, 2, 7, 256} {
		for place := range most {
			x := filled(t, most)
			h := 256 + uint32(place)
			drops(t, x, h)
			refuses(t, x, h, api.ErrStale)
			holds(t, x, slices.Delete(upTo(most), place, place+1)...)
			for other := range most {
				if other != place {
					stands(t, x, 256+uint32(other), other)
				}
			}
		}
	}
}

// P8.4: a Drop that is refused leaves the next handle as it was: no generation is left out and no place is free.
func TestRefusedDropLeavesTheNextHandle(t *testing.T) {
	x := filled(t, 2)
	drops(t, x, 256)
	for _, h := range []uint32{256, 256} {
		refuses(t, x, h, api.ErrStale)
	}
	for _, h := range []uint32{0, 1, 258, 512, 513, 768, top} {
		refuses(t, x, h, api.ErrHandle)
	}
	makes(t, x, 512)
	refuses(t, x, 256, api.ErrStale)
	makesNone(t, x, api.ErrMany)
	holds(t, x, 512, 257)
}

// R2: with no table ErrNil is told, whatever the handle; the calls do nothing: a zero struct is still none behind them.
func TestNoTable(t *testing.T) {
	for _, x := range []*Table{nil, {}} {
		for range 2 {
			makesNone(t, x, api.ErrNil)
			for _, h := range []uint32{0, 1, 255, 256, 257, 512, 1 << 31, top} {
				refuses(t, x, h, api.ErrNil)
			}
			holds(t, x)
		}
	}
}

// Words, P8.2: a place whose last handle had the last generation is used no more when that is dropped, and the others are; with none of them left nothing is made any more.
func TestLastGeneration(t *testing.T) {
	x := made(t, 2)
	first := useUp(t, x, 0)
	if first != 1<<32-256 {
		t.Fatalf("the last handle of the place 0 is %d", first)
	}
	stands(t, x, first, 0)
	refuses(t, x, first-256, api.ErrStale)
	refuses(t, x, 0, api.ErrHandle)
	holds(t, x, first)
	drops(t, x, first)
	holds(t, x)
	refuses(t, x, first, api.ErrStale)
	refuses(t, x, 256, api.ErrStale)
	refuses(t, x, 0, api.ErrHandle)

	second := useUp(t, x, 1)
	stands(t, x, second, 1)
	makesNone(t, x, api.ErrMany)
	holds(t, x, second)
	refuses(t, x, first, api.ErrStale)
	drops(t, x, second)
	for range 3 {
		makesNone(t, x, api.ErrMany)
		holds(t, x)
		for _, h := range []uint32{first, first - 256, 256, second, second - 256, 257} {
			refuses(t, x, h, api.ErrStale)
		}
		for _, h := range []uint32{0, 1, 2, 258, top, first + 2} {
			refuses(t, x, h, api.ErrHandle)
		}
	}
}

// Words: the last handle of all, of the last place, is the greatest number there is.
func TestLastHandleOfAll(t *testing.T) {
	x := made(t, 256)
	for place := range uint32(255) {
		makes(t, x, 256+place)
	}
	if last := useUp(t, x, 255); last != top {
		t.Fatalf("the last handle of all is %d", last)
	}
	stands(t, x, top, 255)
	makesNone(t, x, api.ErrMany)
	holds(t, x, append(upTo(255), top)...)
	drops(t, x, top)
	refuses(t, x, top, api.ErrStale)
	makesNone(t, x, api.ErrMany)
	holds(t, x, upTo(255)...)
}

// P8.5: none, some and all, by their places, not by their numbers or by when they were made.
func TestListByPlaces(t *testing.T) {
	x := made(t, 256)
	holds(t, x)
	want := upTo(256)
	for place := range want {
		makes(t, x, want[place])
		holds(t, x, want[:place+1]...)
	}
	for place := 255; place >= 0; place-- {
		drops(t, x, want[place])
		makes(t, x, want[place]+256)
		want[place] += 256
		holds(t, x, want...)
	}
	for place := 0; place < 256; place += 2 {
		drops(t, x, want[place])
	}
	var odd []uint32
	for place := 1; place < 256; place += 2 {
		odd = append(odd, want[place])
	}
	holds(t, x, odd...)
	for _, h := range odd {
		drops(t, x, h)
	}
	holds(t, x)
}

// P8.5, R4: what List told is memory of its own, its spare room too.
func TestListIsNewMemory(t *testing.T) {
	for many := 1; many <= 9; many++ {
		x := filled(t, many)
		one, other := x.List(), x.List()
		one = one[:cap(one)]
		for i := range one {
			one[i] = 77
		}
		if !slices.Equal(other, upTo(many)) {
			t.Fatalf("another list was changed to %v", other)
		}
		holds(t, x, upTo(many)...)
		drops(t, x, 256)
		makes(t, x, 512)
		if !slices.Equal(other, upTo(many)) {
			t.Fatalf("the table changed a list to %v", other)
		}
	}
}

// P8.6 and all others: a long run of calls answers as a plain record of all handles does; none is made twice, and what was dropped stays so.
func TestLongRunAgainstAPlainRecord(t *testing.T) {
	seed := uint32(1)
	draw := func(below int) int {
		seed = seed*1664525 + 1013904223
		return int(seed>>8) % below
	}
	for _, most := range []int{1, 2, 3, 8, 40, 255, 256} {
		x := made(t, most)
		r := &record{is: make([]uint32, most), was: make([]uint32, most), dropped: map[uint32]bool{}}
		for range 12000 {
			r.step(t, x, draw(5), draw)
			holds(t, x, r.live()...)
		}
		for h, gone := range r.dropped {
			if place := slices.Index(r.is, h); gone {
				refuses(t, x, h, api.ErrStale)
			} else {
				stands(t, x, h, place)
			}
		}
	}
}

// record is a plain table: the handle that each place has, 0 for none, the one that it had last, and of all that ever were, whether they were dropped.
type record struct {
	is, was []uint32
	dropped map[uint32]bool
}

func (r *record) live() []uint32 {
	return slices.DeleteFunc(slices.Clone(r.is), func(h uint32) bool { return h == 0 })
}

// next is the handle that a table makes now; 0, if it makes none.
func (r *record) next() uint32 {
	place := slices.Index(r.is, 0)
	if place < 0 {
		return 0
	}
	if r.was[place] == 0 {
		return 256 + uint32(place)
	}
	return r.was[place] + 256
}

// step does one call with a table and the same with the record.
func (r *record) step(t *testing.T, x *Table, call int, draw func(int) int) {
	t.Helper()
	if call < 2 {
		r.makeOne(t, x)
		return
	}
	h := uint32(draw(5)*256 + draw(256))
	if live := r.live(); call > 2 && len(live) > 0 {
		h = live[draw(len(live))] + uint32(256*draw(2)) - uint32(256*draw(2))
	}
	gone, ok := r.dropped[h]
	switch {
	case !ok:
		refuses(t, x, h, api.ErrHandle)
	case gone:
		refuses(t, x, h, api.ErrStale)
	default:
		place := slices.Index(r.is, h)
		stands(t, x, h, place)
		drops(t, x, h)
		r.is[place], r.dropped[h] = 0, true
	}
}

func (r *record) makeOne(t *testing.T, x *Table) {
	t.Helper()
	want := r.next()
	if want == 0 {
		makesNone(t, x, api.ErrMany)
		return
	}
	h, e := x.Make()
	if _, ok := r.dropped[h]; ok || h != want || e != api.OK {
		t.Fatalf("Make() = %d, error %d, want %d; made before: %v", h, e, want, ok)
	}
	place := slices.Index(r.is, 0)
	r.is[place], r.was[place], r.dropped[h] = h, h, false
}

// R5: two tables share nothing: neither their places nor their generations.
func TestTwoTables(t *testing.T) {
	one, other := made(t, 2), made(t, 2)
	makes(t, one, 256)
	makes(t, one, 257)
	holds(t, other)
	refuses(t, other, 256, api.ErrHandle)
	makes(t, other, 256)
	drops(t, one, 256)
	makes(t, one, 512)
	stands(t, other, 256, 0)
	refuses(t, other, 512, api.ErrHandle)
	makes(t, other, 257)
	drops(t, other, 257)
	stands(t, one, 257, 1)
	holds(t, one, 512, 257)
	holds(t, other, 256)
}

// The chapter's examples.
func TestExamples(t *testing.T) {
	x := made(t, 2)
	makes(t, x, 256)
	makes(t, x, 257)
	makesNone(t, x, api.ErrMany)
	stands(t, x, 257, 1)
	drops(t, x, 256)
	if place, e := x.Place(256); place != 0 || e != api.ErrStale {
		t.Errorf("Place(256) = %d, error %d, want ErrStale", place, e)
	}
	if e := x.Drop(256); e != api.ErrStale {
		t.Errorf("Drop(256): error %d, want ErrStale", e)
	}
	makes(t, x, 512)
	stands(t, x, 512, 0)
	holds(t, x, 512, 257)
	for _, h := range []uint32{0, 258, 513} {
		if place, e := x.Place(h); place != 0 || e != api.ErrHandle {
			t.Errorf("Place(%d) = %d, error %d, want ErrHandle", h, place, e)
		}
	}
	for _, most := range []int{0, 257} {
		if none, e := New(most); none != nil || e != api.ErrArg {
			t.Errorf("New(%d): error %d, want ErrArg", most, e)
		}
	}
}
