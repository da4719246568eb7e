package heirs

import (
	"math"
	"slices"
	"testing"

	"timekeeper/api"
)

// reach is a plain reading of "waits for one, or for one that does, and so on": reach[a][b] is whether a waits for b, however indirectly. It asks of all pairs and of each one between them, and follows no chain.
func reach(waits []int) [][]bool {
	told := make([][]bool, len(waits))
	for a, b := range waits {
		told[a] = make([]bool, len(waits))
		if b >= 0 {
			told[a][b] = true
		}
	}
	for between := range waits {
		for a := range waits {
			for b := range waits {
				told[a][b] = told[a][b] || told[a][between] && told[between][b]
			}
		}
	}
	return told
}

// circle is a plain reading of P17.2.
func circle(waits []int, who, whom int) bool {
	many := len(waits)
	if who < 0 || who >= many || whom < 0 || whom >= many {
		return false
	}
	for _, it := range waits {
		if it < -1 || it >= many {
			return false
		}
	}
	return whom == who || reach(waits)[whom][who]
}

// ranks is a plain reading of P17.1 and P17.3: the greatest base of somebody and of all that wait for them.
func ranks(base, waits []int) ([]int, api.Errno) {
	if len(base) != len(waits) || len(base) > 256 {
		return nil, api.ErrArg
	}
	for i := range base {
		if base[i] < 0 || base[i] > 31 || waits[i] < -1 || waits[i] >= len(base) || waits[i] == i {
			return nil, api.ErrArg
		}
	}
	told, waited := slices.Clone(base), reach(waits)
	for a := range base {
		for b := range base {
			if waited[a][b] {
				told[b] = max(told[b], base[a])
			}
		}
	}
	return told, api.OK
}

// draw is one number after another, the same ones at each run.
type draw uint64

func (d *draw) below(many int) int {
	*d = *d*6364136223846793005 + 1442695040888963407
	return int(uint64(*d)>>33) % many
}

// lists is each list of so many numbers that are from to to.
func lists(many, from, to int) [][]int {
	if many == 0 {
		return [][]int{{}}
	}
	var told [][]int
	for _, list := range lists(many-1, from, to) {
		for it := from; it <= to; it++ {
			told = append(told, append(slices.Clone(list), it))
		}
	}
	return told
}

// noRanks are numbers that are no ranks, some of which are one in fewer bits.
func noRanks() []int {
	return []int{
		math.MinInt, math.MinInt + 5, -1 << 32, -1<<32 + 5, math.MinInt32, -256, -251, -33, -32, -31, -2, -1,
		32, 33, 37, 63, 64, 255, 256, 261, math.MaxInt32, 1 << 31, 1 << 32, 1<<32 + 5, 1<<62 + 5, math.MaxInt - 1, math.MaxInt,
	}
}

// noPlaces are numbers that are neither -1 nor one of so many places, some of which are one in fewer bits.
func noPlaces(many int) []int {
	return []int{
		math.MinInt, math.MinInt + 1, -1<<32 - 1, -1 << 32, -1<<32 + 1, math.MinInt32, -65536, -257, -256, -128, -many - 1, -3, -2,
		many, many + 1, many + 256, many + 65536, math.MaxInt32, 1 << 31, 1<<32 - 1, 1 << 32, 1<<32 + 1, 1<<62 + 1, math.MaxInt - 1, math.MaxInt,
	}
}

// answers is whether Ranks answers these, and changes nothing that it is handed.
func answers(t *testing.T, base, waits, want []int) {
	t.Helper()
	wasBase, wasWaits := slices.Clone(base), slices.Clone(waits)
	got, e := Ranks(base, waits)
	if e != api.OK || !slices.Equal(got, want) {
		t.Fatalf("Ranks(%v; %v) = %v, error %d, want %v", wasBase, wasWaits, got, e, want)
	}
	if !slices.Equal(base, wasBase) || !slices.Equal(waits, wasWaits) {
		t.Fatalf("Ranks(%v; %v) made %v and %v of what it was handed", wasBase, wasWaits, base, waits)
	}
}

// refuses is whether Ranks answers ErrArg and no ranks, and changes nothing that it is handed.
func refuses(t *testing.T, base, waits []int) {
	t.Helper()
	wasBase, wasWaits := slices.Clone(base), slices.Clone(waits)
	got, e := Ranks(base, waits)
	if e != api.ErrArg || len(got) != 0 {
		t.Fatalf("Ranks(%v; %v) = %v, error %d, want none, error %d", wasBase, wasWaits, got, e, api.ErrArg)
	}
	if !slices.Equal(base, wasBase) || !slices.Equal(waits, wasWaits) {
		t.Fatalf("Ranks(%v; %v) made %v and %v of what it was handed", wasBase, wasWaits, base, waits)
	}
}

// tells is whether Circle answers so, and changes nothing that it is handed.
func tells(t *testing.T, waits []int, who, whom int, want bool) {
	t.Helper()
	was := slices.Clone(waits)
	if got := Circle(waits, who, whom); got != want {
		t.Fatalf("Circle(%v; %d, %d) = %t, want %t", was, who, whom, got, want)
	}
	if !slices.Equal(waits, was) {
		t.Fatalf("Circle(%v; %d, %d) made %v of what it was handed", was, who, whom, waits)
	}
}

// suffice is whether ranks hold what P17.1 asks of them, beside that they are as little as they may be.
func suffice(ranks, base, waits []int) bool {
	for i := range base {
		if ranks[i] < base[i] || waits[i] >= 0 && ranks[waits[i]] < ranks[i] {
			return false
		}
	}
	return true
}

// P17.1: nobody has no ranks, and that is no error, whether the lists are empty or nil.
func TestRanksOfNobody(t *testing.T) {
	answers(t, nil, nil, nil)
	answers(t, []int{}, nil, nil)
	answers(t, nil, []int{}, nil)
	answers(t, []int{}, []int{}, nil)
	answers(t, make([]int, 0, 5), make([]int, 0, 3), nil)
}

// P17.1: of one, who can wait for nobody, each rank that there is.
func TestRanksOfOne(t *testing.T) {
	if api.MaxRank != 31 {
		t.Fatalf("MaxRank is %d", api.MaxRank)
	}
	for rank := range 32 {
		answers(t, []int{rank}, []int{-1}, []int{rank})
	}
}

// P17.1: of two, with each rank: nobody waits, one does, the other one does, both do.
func TestRanksOfTwo(t *testing.T) {
	for a := range 32 {
		for b := range 32 {
			both := max(a, b)
			answers(t, []int{a, b}, []int{-1, -1}, []int{a, b})
			answers(t, []int{a, b}, []int{1, -1}, []int{a, both})
			answers(t, []int{a, b}, []int{-1, 0}, []int{both, b})
			answers(t, []int{a, b}, []int{1, 0}, []int{both, both})
		}
	}
}

// P17.1: several, by hand: chains in both directions, several that wait for one, two of them beside each other, circles, chains that lead into one.
func TestRanksOfSeveral(t *testing.T) {
	for _, it := range []struct{ base, waits, want []int }{
		{[]int{4, 0, 31, 7}, []int{-1, -1, -1, -1}, []int{4, 0, 31, 7}},
		{[]int{9, 1, 2, 3}, []int{1, 2, 3, -1}, []int{9, 9, 9, 9}},                       // the first one lends to all
		{[]int{3, 2, 1, 9}, []int{-1, 0, 1, 2}, []int{9, 9, 9, 9}},                       // the last one does
		{[]int{1, 2, 3, 9}, []int{1, 2, 3, -1}, []int{1, 2, 3, 9}},                       // nobody has to
		{[]int{9, 3, 2, 1}, []int{-1, 0, 1, 2}, []int{9, 3, 2, 1}},                       // likewise
		{[]int{5, 1, 7, 3}, []int{1, 2, 3, -1}, []int{5, 5, 7, 7}},                       // one in the midst is greater
		{[]int{0, 3, 9, 1, 4}, []int{3, 4, 0, 1, -1}, []int{9, 9, 9, 9, 9}},              // a chain that goes to and fro
		{[]int{2, 5, 3, 4}, []int{-1, 0, 0, 0}, []int{5, 5, 3, 4}},                       // several wait for one, and do not lend to each other
		{[]int{6, 5, 3, 4}, []int{-1, 0, 0, 0}, []int{6, 5, 3, 4}},                       // who is greater than all of them
		{[]int{0, 1, 8, 2, 7, 3}, []int{-1, 0, 1, 0, 3, 3}, []int{8, 8, 8, 7, 7, 3}},     // a tree
		{[]int{1, 4, 2, 6}, []int{1, 0, 3, 2}, []int{4, 4, 6, 6}},                        // two circles of two
		{[]int{5, 8, 6, 31}, []int{1, 2, 0, -1}, []int{8, 8, 8, 31}},                     // a circle of three, and somebody beside it
		{[]int{5, 8, 6, 31}, []int{2, 0, 1, -1}, []int{8, 8, 8, 31}},                     // the other way round
		{[]int{3, 5, 9, 7}, []int{1, 0, 1, 2}, []int{9, 9, 9, 7}},                        // a chain into a circle
		{[]int{3, 5, 2, 9}, []int{1, 0, 1, 2}, []int{9, 9, 9, 9}},                        // the end of it lends to all
		{[]int{8, 5, 2, 4}, []int{1, 0, 1, 2}, []int{8, 8, 4, 4}},                        // a circle lends nothing to those who wait for it
		{[]int{1, 2, 3, 4, 5, 6}, []int{1, 2, 0, 0, 1, 4}, []int{6, 6, 6, 4, 6, 6}},      // two chains into one circle
		{[]int{0, 0, 0, 0}, []int{1, 2, 3, 0}, []int{0, 0, 0, 0}},                        // 0 is a rank
		{[]int{31, 0, 31, 0, 0}, []int{1, 3, -1, -1, 2}, []int{31, 31, 31, 31, 0}},       // so is 31
		{[]int{2, 2, 2, 2, 2}, []int{1, 2, 3, 4, -1}, []int{2, 2, 2, 2, 2}},              // nobody is greater
		{[]int{1, 9, 5, 9, 1, 7}, []int{-1, 0, -1, 2, -1, 4}, []int{9, 9, 9, 9, 7, 7}},   // pairs beside each other
		{[]int{10, 20, 30, 5}, []int{3, 3, 3, 0}, []int{30, 20, 30, 30}},                 // one who has two of three lenders, and a circle
		{[]int{4, 3, 2, 1, 0, 5}, []int{-1, -1, -1, -1, -1, 4}, []int{4, 3, 2, 1, 5, 5}}, // the last two alone
	} {
		answers(t, it.base, it.waits, it.want)
	}
}

// P17.1: 256 are not too many: nobody waits, chains in both directions, all for one, a circle of all, a chain into a circle; of all lengths near the limit.
func TestRanksOf256(t *testing.T) {
	for _, many := range []int{1, 2, 15, 16, 17, 31, 32, 33, 127, 128, 254, 255, 256} {
		base, nobodys, up, down, star, ring, hook := make([]int, many), make([]int, many), make([]int, many), make([]int, many), make([]int, many), make([]int, many), make([]int, many)
		for i := range many {
			base[i], nobodys[i], up[i], down[i], star[i], ring[i], hook[i] = i*7%32, -1, i+1, i-1, many/2, (i+1)%many, i+1
		}
		up[many-1], star[many/2], hook[many-1] = -1, -1, many-2
		all := [][]int{nobodys, up, down, star}
		if many > 1 {
			all = append(all, ring, hook)
		}
		for _, waits := range all {
			want, e := ranks(base, waits)
			if e != api.OK {
				t.Fatalf("the reading of %d refuses", many)
			}
			answers(t, base, waits, want)
		}
		answers(t, base, nobodys, base)
	}
}

// P17.1: one raises all others of a chain of 256, and of a circle, wherever they stand; ranks that fall and that rise along a chain stay or spread.
func TestRanksGoFar(t *testing.T) {
	const many = 256
	up, down, ring := make([]int, many), make([]int, many), make([]int, many)
	for i := range many {
		up[i], down[i], ring[i] = i+1, i-1, (i+255)%many
	}
	up[many-1] = -1
	for place := range many {
		base := make([]int, many)
		base[place] = 31
		behind := slices.Repeat([]int{31}, many)
		copy(behind, make([]int, place))
		ahead := slices.Repeat([]int{31}, many)
		clear(ahead[place+1:])
		answers(t, base, up, behind)
		answers(t, base, down, ahead)
		answers(t, base, ring, slices.Repeat([]int{31}, many))
	}
	rising := make([]int, many)
	for i := range many {
		rising[i] = i / 8
	}
	answers(t, rising, up, rising)
	answers(t, rising, down, slices.Repeat([]int{31}, many))
	answers(t, rising, ring, slices.Repeat([]int{31}, many))
}

// P17.1, R2: more than 256 are refused, however ordinary they are, and so are 256 of one and 257 of the other.
func TestRanksOfTooMany(t *testing.T) {
	for _, many := range []int{257, 258, 511, 512, 513, 1000, 65536, 65537, 65792} {
		refuses(t, make([]int, many), slices.Repeat([]int{-1}, many))
		refuses(t, make([]int, many), make([]int, many)) // the first one waits for themselves besides
	}
	refuses(t, make([]int, 256), slices.Repeat([]int{-1}, 257))
	refuses(t, make([]int, 257), slices.Repeat([]int{-1}, 256))
	answers(t, make([]int, 256), slices.Repeat([]int{-1}, 256), make([]int, 256))
}

// P17.1, R2: lists that are not equally long are refused, whichever is longer, nobody's among them.
func TestRanksOfUnequalLists(t *testing.T) {
	for bases := range 12 {
		for waiting := range 12 {
			base, waits := make([]int, bases), slices.Repeat([]int{-1}, waiting)
			if bases == waiting {
				answers(t, base, waits, base)
			} else {
				refuses(t, base, waits)
			}
		}
	}
	refuses(t, nil, []int{-1})
	refuses(t, []int{1}, nil)
	refuses(t, []int{1, 2}, make([]int, 1, 2))
	refuses(t, make([]int, 2, 3), []int{-1, -1, -1})
	refuses(t, []int{1, 2, 3}, []int{-1, 0, 1, 2}) // the longer one alone would do
}

// P17.1, R2: a base that is no rank is refused at each place, whoever waits; 0 and MaxRank are ranks.
func TestRanksRefusesBases(t *testing.T) {
	for _, waits := range [][]int{{-1, -1, -1, -1}, {1, 2, 3, -1}, {-1, 0, 1, 2}, {1, 2, 3, 0}} {
		for place := range waits {
			for _, rank := range noRanks() {
				base := []int{5, 0, 31, 7}
				base[place] = rank
				refuses(t, base, waits)
			}
			for _, rank := range []int{0, 1, 30, 31} {
				base := []int{5, 0, 31, 7}
				base[place] = rank
				want, _ := ranks(base, waits)
				answers(t, base, waits, want)
			}
		}
	}
	for _, rank := range noRanks() {
		refuses(t, []int{rank}, []int{-1})
		refuses(t, append(make([]int, 255), rank), slices.Repeat([]int{-1}, 256))
	}
}

// P17.1, R2: one of waits that is neither -1 nor a place is refused at each place, and so is its own; each other place is not.
func TestRanksRefusesWaits(t *testing.T) {
	for many := 1; many <= 5; many++ {
		base := []int{5, 0, 31, 7, 9}[:many]
		for place := range many {
			for _, whom := range append(noPlaces(many), place) {
				waits := slices.Repeat([]int{-1}, many)
				waits[place] = whom
				refuses(t, base, waits)
			}
			for whom := -1; whom < many; whom++ {
				if whom == place {
					continue
				}
				waits := slices.Repeat([]int{-1}, many)
				waits[place] = whom
				want := slices.Clone(base)
				if whom >= 0 {
					want[whom] = max(want[whom], base[place])
				}
				answers(t, base, waits, want)
			}
		}
	}
	base, waits := make([]int, 256), slices.Repeat([]int{-1}, 256)
	for _, whom := range append(noPlaces(256), 255) {
		waits[255] = whom
		refuses(t, base, waits)
	}
}

// P17.1: every list of up to four numbers that are places, and that are none on both sides of them, with bases that differ.
func TestRanksOfEachList(t *testing.T) {
	for many := range 5 {
		for _, base := range [][]int{{3, 2, 1, 0}, {0, 1, 2, 3}, {31, 0, 30, 1}, {7, 7, 9, 7}} {
			for _, waits := range lists(many, -2, many) {
				want, e := ranks(base[:many], waits)
				if e != api.OK {
					refuses(t, base[:many], waits)
				} else {
					answers(t, base[:many], waits, want)
				}
			}
		}
	}
}

// hasOwnPlace is whether somebody waits for themselves.
func hasOwnPlace(waits []int) bool {
	for place, whom := range waits {
		if place == whom {
			return true
		}
	}
	return false
}

// P17.1: the ranks hold what is asked, and of all that hold it they are the least, for every list of waits and of three ranks with up to four places.
func TestRanksAreLeast(t *testing.T) {
	for many := range 5 {
		all := lists(many, 0, 2)
		for _, waits := range lists(many, -1, many-1) {
			if hasOwnPlace(waits) {
				continue
			}
			for _, base := range all {
				got, e := Ranks(base, waits)
				if e != api.OK || !suffice(got, base, waits) {
					t.Fatalf("Ranks(%v; %v) = %v, error %d: less than it is to be", base, waits, got, e)
				}
				for _, other := range all {
					if !suffice(other, base, waits) {
						continue
					}
					for place := range got {
						if other[place] < got[place] {
							t.Fatalf("Ranks(%v; %v) = %v, but %v would do", base, waits, got, other)
						}
					}
				}
			}
		}
	}
}

// someWaits is a list of waits as Ranks takes it: one of so many waits for nobody, on the average.
func someWaits(d *draw, many, seldom int) []int {
	waits := make([]int, many)
	for place := range waits {
		waits[place] = -1
		if many > 1 && d.below(seldom) > 0 {
			waits[place] = (place + 1 + d.below(many-1)) % many
		}
	}
	return waits
}

// someBase is ranks at random.
func someBase(d *draw, many int) []int {
	base := make([]int, many)
	for place := range base {
		base[place] = d.below(32)
	}
	return base
}

// P17.1, P17.3: long lists at random: the ranks are those of a plain reading; each is its own base or one of somebody who waits for it.
func TestRanksAtRandom(t *testing.T) {
	d := draw(17)
	for range 400 {
		many := 1 + d.below(60)
		base, waits := someBase(&d, many), someWaits(&d, many, 1+d.below(20))
		want, _ := ranks(base, waits)
		answers(t, base, waits, want)
		got, _ := Ranks(base, waits)
		if !suffice(got, base, waits) {
			t.Fatalf("Ranks(%v; %v) = %v: less than it is to be", base, waits, got)
		}
		waited := reach(waits)
		for place, rank := range got {
			ofOne := rank == base[place]
			for other := range base {
				ofOne = ofOne || waited[other][place] && base[other] == rank
			}
			if !ofOne {
				t.Fatalf("Ranks(%v; %v): the rank %d of %d is nobody's", base, waits, rank, place)
			}
		}
	}
	for range 6 {
		base, waits := someBase(&d, 256), someWaits(&d, 256, 30)
		want, _ := ranks(base, waits)
		answers(t, base, waits, want)
	}
}

// P17.3: with one more who waits no rank is less: every list with up to four places, each one of them who waits for nobody, for each other one; and at random.
func TestOneMoreWhoWaits(t *testing.T) {
	more := func(base, waits []int) {
		was, e := Ranks(base, waits)
		for place, whom := range waits {
			for other := range waits {
				if e != api.OK || whom != -1 || other == place {
					continue
				}
				with := slices.Clone(waits)
				with[place] = other
				is, e := Ranks(base, with)
				if e != api.OK || len(is) != len(was) {
					t.Fatalf("Ranks(%v; %v) = %v, error %d", base, with, is, e)
				}
				for i := range is {
					if is[i] < was[i] {
						t.Fatalf("Ranks(%v; %v) = %v, with one who waits less %v", base, with, is, was)
					}
				}
				if is[other] < base[place] {
					t.Fatalf("Ranks(%v; %v) = %v: %d has less than who waits for it", base, with, is, other)
				}
			}
		}
	}
	for many := range 5 {
		for _, waits := range lists(many, -1, many-1) {
			for _, base := range [][]int{{3, 2, 1, 0}, {0, 1, 2, 3}, {31, 0, 30, 1}} {
				more(base[:many], waits)
			}
		}
	}
	d := draw(3)
	for range 60 {
		many := 1 + d.below(20)
		more(someBase(&d, many), someWaits(&d, many, 3))
	}
}

// R4: what is answered is memory of its own, spare room too: writing into it changes neither what was handed in nor another answer, and the spare room of what was handed in stays as it was.
func TestRanksAreNewMemory(t *testing.T) {
	for _, many := range []int{0, 1, 2, 3, 5, 8, 256} {
		d := draw(many)
		roomBase, roomWaits := append(someBase(&d, many), 77, 78, 79), append(someWaits(&d, many, 4), 87, 88, 89)
		base, waits := roomBase[:many], roomWaits[:many]
		wasBase, wasWaits := slices.Clone(roomBase), slices.Clone(roomWaits)
		first, _ := Ranks(base, waits)
		want := slices.Clone(first)
		second, _ := Ranks(base, waits)
		for _, list := range [][]int{first[:cap(first)], second[:cap(second)]} {
			for i := range list {
				list[i] = -5
			}
			if !slices.Equal(roomBase, wasBase) || !slices.Equal(roomWaits, wasWaits) {
				t.Fatalf("writing into the answer to %d made %v and %v of %v and %v", many, roomBase, roomWaits, wasBase, wasWaits)
			}
		}
		third, _ := Ranks(base, waits)
		for i := range second[:cap(second)] {
			second[:cap(second)][i] = -6
		}
		if !slices.Equal(third, want) {
			t.Fatalf("the third answer to %d is %v, the first one was %v", many, third, want)
		}
		if third = third[:cap(third)]; slices.Contains(third, -5) || slices.Contains(third, -6) {
			t.Fatalf("the answers to %d share memory", many)
		}
		for i := range roomBase { // what is handed in may change afterwards, too
			roomBase[i], roomWaits[i] = -7, -7
		}
		if !slices.Equal(third[:many], want) {
			t.Fatalf("the answer to %d changed with what was handed in", many)
		}
	}
}

// R4: one list may be handed in as both, where it is both; and neither call keeps anything for the next one (R5).
func TestSameListTwice(t *testing.T) {
	list := []int{1, 2, 0}
	answers(t, list, list, []int{2, 2, 2})
	answers(t, []int{9, 0, 0}, list, []int{9, 9, 9})
	answers(t, list, list, []int{2, 2, 2})
	refuses(t, []int{32, 0, 0}, list)
	answers(t, list, list, []int{2, 2, 2})
	tells(t, list, 0, 1, true)
	tells(t, []int{1, 2, 3}, 0, 1, false)
	tells(t, list, 0, 1, true)
}

// P17.2: somebody with themselves is a circle, whoever waits for whom.
func TestCircleOfOneself(t *testing.T) {
	for _, waits := range [][]int{{-1}, {0}, {-1, -1, -1}, {1, 2, -1}, {-1, 0, 1}, {1, 2, 0}, {0, 1, 2}, {2, 2, 1}} {
		for place := range waits {
			tells(t, waits, place, place, true)
		}
	}
}

// P17.2: one who waits for them directly, through others, and not at all; in chains of both directions.
func TestCircleInChains(t *testing.T) {
	for many := 2; many <= 9; many++ {
		up, down := make([]int, many), make([]int, many)
		for i := range many {
			up[i], down[i] = i+1, i-1
		}
		up[many-1] = -1
		for who := range many {
			for whom := range many {
				tells(t, up, who, whom, whom <= who)
				tells(t, down, who, whom, whom >= who)
				tells(t, slices.Repeat([]int{-1}, many), who, whom, who == whom)
			}
		}
	}
	tells(t, []int{-1, 0, 0, 1}, 0, 3, true)
	tells(t, []int{-1, 0, 0, 1}, 2, 3, false) // both wait for one, not for each other
	tells(t, []int{-1, 0, 0, 1}, 1, 2, false)
	tells(t, []int{-1, 0, 0, 1}, 3, 0, false) // they wait for whom, not whom for them
}

// P17.2: circles that they are part of, that lie on the way, and that lie beside it; one who waits for themselves is a circle alone.
func TestCircleInCircles(t *testing.T) {
	for many := 1; many <= 9; many++ {
		ring := make([]int, many)
		for i := range many {
			ring[i] = (i + 1) % many
		}
		for who := range many {
			for whom := range many {
				tells(t, ring, who, whom, true)
			}
		}
	}
	hook := []int{1, 2, 3, 4, 2, 6, 5, -1, 8, 8} // 0 and 1 lead into the circle of 2, 3 and 4; 5 and 6 wait for each other; 7 for nobody; 8 for themselves, 9 for 8
	parts := [][]int{0: {0}, 1: {0, 1}, 2: {0, 1, 2, 3, 4}, 3: {0, 1, 2, 3, 4}, 4: {0, 1, 2, 3, 4}, 5: {5, 6}, 6: {5, 6}, 7: {7}, 8: {8, 9}, 9: {9}}
	for who, those := range parts {
		for whom := range hook {
			tells(t, hook, who, whom, slices.Contains(those, whom))
		}
	}
}

// P17.2: who is no place, and whom is none: below 0, the number of places, and greater ones, both being the same one, too.
func TestCircleOfNoPlaces(t *testing.T) {
	for many := range 5 {
		ring := make([]int, many)
		for i := range many {
			ring[i] = (i + 1) % many
		}
		for _, waits := range [][]int{slices.Repeat([]int{-1}, many), ring} {
			for _, none := range append(noPlaces(many), -1) {
				tells(t, waits, none, none, false)
				tells(t, waits, none, -1, false)
				tells(t, waits, -1, none, false)
				for place := range many {
					tells(t, waits, none, place, false)
					tells(t, waits, place, none, false)
				}
			}
		}
	}
	tells(t, nil, 0, 0, false)
	tells(t, []int{}, 0, 0, false)
	tells(t, make([]int, 0, 3), 0, 0, false)
	tells(t, make([]int, 2, 3), 2, 2, false)
}

// P17.2: with one of waits that is neither -1 nor a place nothing is a circle, wherever that one stands, on the way or beside it.
func TestCircleOfOddWaits(t *testing.T) {
	for _, ordinary := range [][]int{{-1}, {-1, 0}, {1, 2, 0, -1}, {-1, 0, 1, 2}, {0, 1, 2, 3}} {
		for place := range ordinary {
			for _, whom := range noPlaces(len(ordinary)) {
				waits := slices.Clone(ordinary)
				waits[place] = whom
				for a := range waits {
					for b := range waits {
						tells(t, waits, a, b, false)
					}
				}
			}
		}
	}
}

// P17.2: every list of up to four numbers that are places, and that are none on both sides of them, with each two numbers.
func TestCircleOfEachList(t *testing.T) {
	for many := range 5 {
		for _, waits := range lists(many, -2, many) {
			for who := -2; who <= many; who++ {
				for whom := -2; whom <= many; whom++ {
					tells(t, waits, who, whom, circle(waits, who, whom))
				}
			}
		}
	}
}

// P17.2: long lists at random, some of whom wait for themselves.
func TestCircleAtRandom(t *testing.T) {
	d := draw(29)
	for range 200 {
		many := 1 + d.below(50)
		waits := someWaits(&d, many, 1+d.below(20))
		for range d.below(3) {
			place := d.below(many)
			waits[place] = place
		}
		waited := reach(waits)
		for who := range many {
			for whom := range many {
				tells(t, waits, who, whom, who == whom || waited[whom][who])
			}
		}
	}
}

// P17.2: of Circle's places there is no limit: 257 and far more, in a chain, which is followed to its end, and in a circle.
func TestCircleOfMany(t *testing.T) {
	for _, many := range []int{255, 256, 257, 258, 1000, 65536, 65537, 300000} {
		chain := make([]int, many)
		for i := range many {
			chain[i] = i - 1
		}
		tells(t, chain, 0, many-1, true)
		tells(t, chain, 1, many-1, true)
		tells(t, chain, many-1, 0, false)
		tells(t, chain, 1, 0, false)
		chain[0] = many - 1
		tells(t, chain, 0, many-1, true)
		tells(t, chain, many-1, 0, true)
		tells(t, chain, 1, 0, true)
		chain[0] = 1 // the first two are a circle, into which all others lead
		tells(t, chain, 1, many-1, true)
		tells(t, chain, 1, 0, true)
		tells(t, chain, many-1, 1, false)
		chain[0] = many
		tells(t, chain, 1, many-1, false)
		tells(t, chain, many-1, many-1, false)
	}
}

// P17.1, P17.2: who would wait in a circle has the rank of all of it: a list of others has a circle where one for whom somebody waits waits for them.
func TestCircleHasOneRank(t *testing.T) {
	d := draw(41)
	for range 200 {
		many := 2 + d.below(12)
		base, waits := someBase(&d, many), someWaits(&d, many, 8)
		got, e := Ranks(base, waits)
		if e != api.OK {
			t.Fatalf("Ranks(%v; %v): error %d", base, waits, e)
		}
		for who, whom := range waits {
			if whom >= 0 && Circle(waits, who, whom) && got[who] != got[whom] {
				t.Fatalf("Ranks(%v; %v) = %v, with %d and %d in one circle", base, waits, got, who, whom)
			}
		}
	}
}

// P17.1, P17.2: the chapter's examples.
func TestExamples(t *testing.T) {
	answers(t, []int{1, 5, 3}, []int{-1, 0, 1}, []int{5, 5, 3})
	answers(t, []int{1, 9, 3}, []int{2, 0, -1}, []int{9, 9, 9})
	tells(t, []int{2, 0, -1}, 2, 1, true)
	tells(t, []int{2, 0, -1}, 1, 2, false)
}
