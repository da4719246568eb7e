package pools

import (
	"math"
	"slices"
	"testing"

	"timekeeper/api"
)

const top = 1<<32 - 1

func made(t *testing.T, many, size int) *Pool {
	t.Helper()
	p, e := New(many, size)
	if e != api.OK || p == nil {
		t.Fatalf("New(%d, %d): %v, error %d", many, size, p, e)
	}
	return p
}

// given is a pool of as many blocks as there are names, each of which has the block at its place.
func given(t *testing.T, names ...uint32) *Pool {
	t.Helper()
	p := made(t, len(names), 8)
	for block, who := range names {
		gets(t, p, who, block)
	}
	return p
}

func gets(t *testing.T, p *Pool, who uint32, want int) {
	t.Helper()
	if block, e := p.Alloc(who); block != want || e != api.OK {
		t.Fatalf("Alloc(%d) = %d, error %d, want %d", who, block, e, want)
	}
}

func refuses(t *testing.T, p *Pool, who uint32, want api.Errno) {
	t.Helper()
	if block, e := p.Alloc(who); block != 0 || e != want {
		t.Fatalf("Alloc(%d) = %d, error %d, want error %d", who, block, e, want)
	}
}

func frees(t *testing.T, p *Pool, who uint32, block int, want api.Errno) {
	t.Helper()
	if e := p.Free(who, block); e != want {
		t.Fatalf("Free(%d, %d): error %d, want %d", who, block, e, want)
	}
}

func freesAll(t *testing.T, p *Pool, who uint32, want int) {
	t.Helper()
	if count := p.All(who); count != want {
		t.Fatalf("All(%d) = %d, want %d", who, count, want)
	}
}

// holds tells whether Owners and Left both tell these owners.
func holds(t *testing.T, p *Pool, want ...uint32) {
	t.Helper()
	if got := p.Owners(); !slices.Equal(got, want) {
		t.Fatalf("Owners() = %v, want %v", got, want)
	}
	free := 0
	for _, who := range want {
		if who == 0 {
			free++
		}
	}
	if got := p.Left(); got != free {
		t.Fatalf("Left() = %d, want %d of %v", got, free, want)
	}
}

// P5.1: so many blocks, all of which are free, whatever their size.
func TestNewHasAllBlocksFree(t *testing.T) {
	for _, size := range []int{1, 2, 8, api.MaxBlock - 1, api.MaxBlock} {
		for many := 1; many <= api.MaxBlocks; many++ {
			p := made(t, many, size)
			holds(t, p, make([]uint32, many)...)
			for block := range many {
				gets(t, p, 9, block)
			}
			refuses(t, p, 9, api.ErrEmpty)
		}
	}
}

// P5.1: no fewer than one block of one byte, no more than the limits.
func TestNewRefuses(t *testing.T) {
	if api.MaxBlocks != 64 || api.MaxBlock != 256 {
		t.Fatal("the limits are 64 blocks of 256 bytes")
	}
	good := []int{1, 2, 63, 64}
	badMany := []int{math.MinInt, math.MinInt32, -64, -1, 0, 65, 66, 128, 256, 257, 1<<32 + 1, math.MaxInt32, math.MaxInt}
	badSize := []int{math.MinInt, math.MinInt32, -256, -1, 0, 257, 258, 512, 1<<32 + 1, math.MaxInt32, math.MaxInt}
	refused := func(many, size int) {
		t.Helper()
		if p, e := New(many, size); p != nil || e != api.ErrArg {
			t.Errorf("New(%d, %d): %v, error %d, want ErrArg", many, size, p, e)
		}
	}
	for _, many := range badMany {
		for _, size := range slices.Concat(good, badSize, []int{255, 256}) {
			refused(many, size)
		}
	}
	for _, size := range badSize {
		for _, many := range good {
			refused(many, size)
		}
	}
}

// P5.2: blocks go out from the least one on, whoever asks, till none is free.
func TestAllocGivesTheLeast(t *testing.T) {
	names := []uint32{1, top, 7, 7, 1 << 31, 1<<31 - 1, 1, 256, 65536}
	p := made(t, len(names), 1)
	for block, who := range names {
		gets(t, p, who, block)
		holds(t, p, slices.Concat(names[:block+1], make([]uint32, len(names)-block-1))...)
	}
	for _, who := range []uint32{1, 2, 7, top} {
		refuses(t, p, who, api.ErrEmpty)
		holds(t, p, names...)
	}
}

// P5.2: behind blocks that were taken back, in whatever order, the least that is free goes out first.
func TestAllocGivesTheLeastThatCameBack(t *testing.T) {
	for _, order := range [][]int{{1, 3, 4}, {1, 4, 3}, {3, 1, 4}, {3, 4, 1}, {4, 1, 3}, {4, 3, 1}} {
		p := given(t, 5, 6, 7, 8, 9, 10)
		for _, block := range order {
			frees(t, p, uint32(block+5), block, api.OK)
		}
		holds(t, p, 5, 0, 7, 0, 0, 10)
		gets(t, p, 20, 1)
		gets(t, p, 21, 3)
		gets(t, p, 22, 4)
		refuses(t, p, 23, api.ErrEmpty)
		holds(t, p, 5, 20, 7, 21, 22, 10)
	}
	p := given(t, 5, 6, 7)
	frees(t, p, 7, 2, api.OK)
	gets(t, p, 8, 2)
	frees(t, p, 5, 0, api.OK)
	gets(t, p, 8, 0)
	frees(t, p, 8, 2, api.OK)
	frees(t, p, 8, 0, api.OK)
	gets(t, p, 6, 0)
	holds(t, p, 6, 6, 0)
}

// P5.2: a block that came back goes out ahead of those that were never given out.
func TestAllocPrefersTheLeastToTheUnused(t *testing.T) {
	p := made(t, 4, 8)
	gets(t, p, 1, 0)
	gets(t, p, 2, 1)
	frees(t, p, 1, 0, api.OK)
	gets(t, p, 3, 0)
	gets(t, p, 4, 2)
	holds(t, p, 3, 2, 4, 0)
}

// P5.2, R2: who 0 is told ahead of there being no block; nothing changes.
func TestAllocOfNobody(t *testing.T) {
	p := made(t, 2, 8)
	refuses(t, p, 0, api.ErrArg)
	holds(t, p, 0, 0)
	gets(t, p, 3, 0)
	refuses(t, p, 0, api.ErrArg)
	holds(t, p, 3, 0)
	gets(t, p, 4, 1)
	refuses(t, p, 0, api.ErrArg)
	holds(t, p, 3, 4)
}

// P5.3: Free takes back the one block, and no other one of who's.
func TestFreeTakesOneBack(t *testing.T) {
	for block := range 5 {
		p := given(t, 4, 4, 4, 4, 4)
		frees(t, p, 4, block, api.OK)
		want := []uint32{4, 4, 4, 4, 4}
		want[block] = 0
		holds(t, p, want...)
		frees(t, p, 4, block, api.ErrOwner)
		holds(t, p, want...)
		gets(t, p, 6, block)
	}
	p := given(t, slices.Repeat([]uint32{top}, api.MaxBlocks)...)
	frees(t, p, top, api.MaxBlocks-1, api.OK)
	frees(t, p, top, 0, api.OK)
	if p.Left() != 2 || p.Owners()[0] != 0 || p.Owners()[api.MaxBlocks-1] != 0 {
		t.Fatalf("the first and the last one are free: %v", p.Owners())
	}
}

// P5.3: blocks that are not there, from below the first to far behind the last, also those for which there is room.
func TestFreeOfNoSuchBlock(t *testing.T) {
	for _, many := range []int{1, 2, 3, api.MaxBlocks - 1, api.MaxBlocks} {
		names := slices.Repeat([]uint32{5}, many)
		p := given(t, names...)
		none := []int{math.MinInt, math.MinInt32, -(1 << 32), -64, -2, -1, many, many + 1, 64, 65, 255, 256, 1 << 16, 1 << 32, math.MaxInt32, math.MaxInt}
		for _, block := range none {
			for _, who := range []uint32{5, 6, top, 0} {
				frees(t, p, who, block, api.ErrArg)
			}
		}
		holds(t, p, names...)
		frees(t, p, 5, many-1, api.OK)
	}
}

// P5.3: a block that is another one's, nobody's, or was taken back already.
func TestFreeOfSomebodyElses(t *testing.T) {
	p := made(t, 3, 8)
	gets(t, p, 5, 0)
	gets(t, p, 6, 1)
	for _, who := range []uint32{1, 4, 6, 7, 5 + 256, 5 + 65536, 5 + 1<<31, top} {
		frees(t, p, who, 0, api.ErrOwner)
	}
	frees(t, p, 5, 1, api.ErrOwner)
	for _, who := range []uint32{5, 6, 7, top} {
		frees(t, p, who, 2, api.ErrOwner)
	}
	holds(t, p, 5, 6, 0)
	frees(t, p, 5, 0, api.OK)
	frees(t, p, 5, 0, api.ErrOwner)
	frees(t, p, 6, 0, api.ErrOwner)
	holds(t, p, 0, 6, 0)
	gets(t, p, 6, 0)
	frees(t, p, 5, 0, api.ErrOwner)
	holds(t, p, 6, 6, 0)
}

// P5.3, R2: who 0 is ErrArg, of a block that is free, too.
func TestFreeByNobody(t *testing.T) {
	p := made(t, 3, 8)
	gets(t, p, 5, 0)
	for _, block := range []int{-1, 0, 1, 2, 3} {
		frees(t, p, 0, block, api.ErrArg)
	}
	holds(t, p, 5, 0, 0)
}

// P5.3: All takes back all of who's, tells how many, and leaves others'.
func TestAllTakesAllBack(t *testing.T) {
	start := []uint32{5, 6, 5, 7, 5, top}
	for _, c := range []struct {
		who   uint32
		count int
		want  []uint32
	}{
		{5, 3, []uint32{0, 6, 0, 7, 0, top}},
		{6, 1, []uint32{5, 0, 5, 7, 5, top}},
		{7, 1, []uint32{5, 6, 5, 0, 5, top}},
		{top, 1, []uint32{5, 6, 5, 7, 5, 0}},
		{8, 0, start},
		{1, 0, start},
		{5 + 256, 0, start},
		{6 + 1<<31, 0, start},
		{0, 0, start},
	} {
		p := given(t, start...)
		freesAll(t, p, c.who, c.count)
		holds(t, p, c.want...)
		freesAll(t, p, c.who, 0)
		holds(t, p, c.want...)
	}
}

// P5.3: what All took back is given out again, the least first.
func TestAllocBehindAll(t *testing.T) {
	p := given(t, 5, 6, 5, 6, 5)
	freesAll(t, p, 5, 3)
	gets(t, p, 6, 0)
	gets(t, p, 9, 2)
	freesAll(t, p, 6, 3)
	gets(t, p, 1, 0)
	gets(t, p, 1, 1)
	gets(t, p, 1, 3)
	gets(t, p, 1, 4)
	refuses(t, p, 1, api.ErrEmpty)
	holds(t, p, 1, 1, 9, 1, 1)
}

// P5.3: All of a whole pool, of a pool with nothing given out, and of who 0 with free blocks.
func TestAllOfWholeAndOfNone(t *testing.T) {
	for _, many := range []int{1, 2, api.MaxBlocks} {
		p := given(t, slices.Repeat([]uint32{3}, many)...)
		freesAll(t, p, 0, 0)
		freesAll(t, p, 4, 0)
		freesAll(t, p, 3, many)
		holds(t, p, make([]uint32, many)...)
		freesAll(t, p, 3, 0)
		freesAll(t, p, 0, 0)
		holds(t, p, make([]uint32, many)...)
	}
}

// P5.4, R4: what Owners told is memory of its own, spare room too.
func TestOwnersAreNewMemory(t *testing.T) {
	p := given(t, 5, 6, 7)
	one, other := p.Owners(), p.Owners()
	spoil := func(told []uint32) {
		all := told[:cap(told)]
		for i := range all {
			all[i] = 99
		}
	}
	spoil(one)
	holds(t, p, 5, 6, 7)
	if !slices.Equal(other, []uint32{5, 6, 7}) {
		t.Fatalf("two answers share memory: %v", other)
	}
	frees(t, p, 6, 1, api.OK)
	if !slices.Equal(other, []uint32{5, 6, 7}) {
		t.Fatalf("an answer changes with the pool: %v", other)
	}
	spoil(other)
	gets(t, p, 8, 1)
	refuses(t, p, 8, api.ErrEmpty)
	holds(t, p, 5, 8, 7)
}

// R2, P5.2, P5.3: what is refused leaves everything as it was, whatever comes next.
func TestRefusedChangesNothing(t *testing.T) {
	p := made(t, 3, 8)
	gets(t, p, 5, 0)
	gets(t, p, 6, 1)
	refuseEach := func(want ...uint32) {
		t.Helper()
		refuses(t, p, 0, api.ErrArg)
		frees(t, p, 0, 0, api.ErrArg)
		frees(t, p, 5, -1, api.ErrArg)
		frees(t, p, 5, 3, api.ErrArg)
		frees(t, p, 6, 0, api.ErrOwner)
		frees(t, p, 5, 1, api.ErrOwner)
		freesAll(t, p, 0, 0)
		holds(t, p, want...)
	}
	refuseEach(5, 6, 0)
	gets(t, p, 7, 2)
	refuses(t, p, 5, api.ErrEmpty)
	refuseEach(5, 6, 7)
	frees(t, p, 6, 1, api.OK)
	refuseEach(5, 0, 7)
	gets(t, p, 9, 1)
	refuseEach(5, 9, 7)
}

// R5: two pools have nothing in common.
func TestTwoPools(t *testing.T) {
	p, q := made(t, 3, 8), made(t, 3, 8)
	gets(t, p, 5, 0)
	gets(t, p, 6, 1)
	holds(t, q, 0, 0, 0)
	gets(t, q, 6, 0)
	gets(t, q, 5, 1)
	gets(t, q, 5, 2)
	refuses(t, q, 5, api.ErrEmpty)
	holds(t, p, 5, 6, 0)
	freesAll(t, q, 5, 2)
	frees(t, q, 5, 0, api.ErrOwner)
	holds(t, p, 5, 6, 0)
	frees(t, p, 5, 0, api.OK)
	holds(t, q, 6, 0, 0)
	holds(t, p, 0, 6, 0)
}

// R3: of a pool that is not there, and of one that no call made, every method tells so and does nothing.
func TestPoolThatIsNotThere(t *testing.T) {
	for _, p := range []*Pool{nil, {}, new(Pool)} {
		for range 2 {
			for _, who := range []uint32{0, 1, 5, top} {
				refuses(t, p, who, api.ErrNil)
				for _, block := range []int{math.MinInt, -1, 0, 1, 63, 64, math.MaxInt} {
					frees(t, p, who, block, api.ErrNil)
				}
				freesAll(t, p, who, 0)
			}
			holds(t, p)
		}
	}
}

// plain is a pool told as a list of names: what the promises say, word by word.
type plain []uint32

func (m plain) alloc(who uint32) (int, api.Errno) {
	if who == 0 {
		return 0, api.ErrArg
	}
	for block := range m {
		if m[block] == 0 {
			m[block] = who
			return block, api.OK
		}
	}
	return 0, api.ErrEmpty
}

func (m plain) free(who uint32, block int) api.Errno {
	switch {
	case who == 0, block < 0, block >= len(m):
		return api.ErrArg
	case m[block] != who:
		return api.ErrOwner
	}
	m[block] = 0
	return api.OK
}

func (m plain) all(who uint32) int {
	count := 0
	for block := range m {
		if who != 0 && m[block] == who {
			m[block] = 0
			count++
		}
	}
	return count
}

// P5.5: over long runs each block is free or one's, and stays its owner's till it is taken back.
func TestLongRuns(t *testing.T) {
	seed := uint32(12345)
	next := func(below int) int {
		seed = seed*1664525 + 1013904223
		return int(seed>>8) % below
	}
	for _, many := range []int{1, 2, 3, 7, 8, 31, 32, 33, 63, 64} {
		p, m := made(t, many, 1+next(api.MaxBlock)), make(plain, many)
		for step := range 4000 {
			who, block := uint32(next(5)), next(many+2)-1
			switch what := next(20); {
			case what < 12:
				got, e := p.Alloc(who)
				if want, wantErr := m.alloc(who); got != want || e != wantErr {
					t.Fatalf("%d blocks, step %d: Alloc(%d) = %d, error %d, want %d, error %d", many, step, who, got, e, want, wantErr)
				}
			case what < 19:
				frees(t, p, who, block, m.free(who, block))
			case next(4) == 0:
				freesAll(t, p, who, m.all(who))
			}
			holds(t, p, m...)
		}
	}
}

// P5.5: what was given out goes to no one else till it is taken back, and then to one only.
func TestGivenOutIsNoOneElses(t *testing.T) {
	p := made(t, api.MaxBlocks, api.MaxBlock)
	has := map[int]uint32{}
	for i := range api.MaxBlocks {
		who := uint32(i%7 + 1)
		block, e := p.Alloc(who)
		if _, twice := has[block]; e != api.OK || twice {
			t.Fatalf("block %d goes out twice, or not at all (error %d)", block, e)
		}
		has[block] = who
	}
	refuses(t, p, 8, api.ErrEmpty)
	for block, who := range has {
		for other := range uint32(9) {
			if other != who && other != 0 {
				frees(t, p, other, block, api.ErrOwner)
			}
		}
		frees(t, p, who, block, api.OK)
		gets(t, p, 8, block)
		refuses(t, p, who, api.ErrEmpty)
		frees(t, p, who, block, api.ErrOwner)
	}
	holds(t, p, slices.Repeat([]uint32{8}, api.MaxBlocks)...)
}

// The chapter's examples.
func TestExamples(t *testing.T) {
	p := made(t, 3, 8)
	gets(t, p, 5, 0)
	gets(t, p, 6, 1)
	gets(t, p, 5, 2)
	refuses(t, p, 7, api.ErrEmpty)
	holds(t, p, 5, 6, 5)

	frees(t, p, 6, 0, api.ErrOwner)
	frees(t, p, 5, 0, api.OK)
	gets(t, p, 7, 0)
	freesAll(t, p, 5, 1)
	if p.Left() != 1 {
		t.Fatalf("Left() = %d, want 1", p.Left())
	}

	frees(t, p, 5, 3, api.ErrArg)
	refuses(t, p, 0, api.ErrArg)
	for _, c := range [][2]int{{0, 8}, {65, 1}, {1, 257}} {
		if q, e := New(c[0], c[1]); q != nil || e != api.ErrArg {
			t.Errorf("New(%d, %d): %v, error %d, want ErrArg", c[0], c[1], q, e)
		}
	}
}
