package regions

import (
	"bytes"
	"math"
	"testing"

	"timekeeper/api"
)

const top = 1<<32 - 1

func made(t *testing.T, size int, data ...byte) *Region {
	t.Helper()
	r, e := New(size, data)
	if e != api.OK || r == nil {
		t.Fatalf("New(%d, %v): %v, error %d", size, data, r, e)
	}
	return r
}

// counted tells bytes that differ from their neighbours, also a row further on.
func counted(size int) []byte {
	all := make([]byte, size)
	for i := range all {
		all[i] = byte(i%251 + 1)
	}
	return all
}

func holds(t *testing.T, r *Region, want []byte) {
	t.Helper()
	if got := r.Bytes(); !bytes.Equal(got, want) {
		t.Fatalf("Bytes() = %v, want %v", got, want)
	}
}

// fourAt is the number that the four bytes make, reckoned by places of 256.
func fourAt(all []byte, at int) uint32 {
	sum := 0
	for i, worth := range []int{1 << 24, 1 << 16, 1 << 8, 1} {
		sum += int(all[at+i]) * worth
	}
	return uint32(sum)
}

// sizes of a region at which something turns.
func sizes() []int {
	return []int{0, 1, 2, 3, 4, 5, 6, 7, 8, 9, 255, 256, 257, api.MaxRegion - 1, api.MaxRegion}
}

// beyond are places that no region has.
func beyond() []uint32 {
	return []uint32{
		api.MaxRegion, api.MaxRegion + 1, 65535, 65536, 65536 + 2, 1<<31 - 1, 1 << 31, 1<<31 + 1,
		top - 4096, top - 7, top - 4, top - 3, top - 2, top - 1, top,
	}
}

// P4.1: data stands at the beginning, and behind it bytes 0.
func TestNewHoldsDataAndZeros(t *testing.T) {
	for _, size := range sizes() {
		for _, count := range []int{0, 1, 2, 3, 4, size / 2, size - 1, size} {
			if count < 0 || count > size {
				continue
			}
			data := counted(count)
			want := append(bytes.Clone(data), make([]byte, size-count)...)
			holds(t, made(t, size, data...), want)
		}
	}
	holds(t, made(t, 3, 0, 0, 9), []byte{0, 0, 9})
	holds(t, made(t, 4, 255, 0, 128), []byte{255, 0, 128, 0})
}

// P4.1, R4: no data and empty data mean the same.
func TestNewOfNoData(t *testing.T) {
	for _, data := range [][]byte{nil, {}, make([]byte, 0, 8)} {
		for _, size := range sizes() {
			r, e := New(size, data)
			if r == nil || e != api.OK {
				t.Fatalf("New(%d, %v): error %d", size, data, e)
			}
			holds(t, r, make([]byte, size))
		}
	}
}

// P4.1: sizes and data that may not be.
func TestNewRefuses(t *testing.T) {
	for _, c := range []struct{ size, count int }{
		{-1, 0}, {-1, 1}, {-2, 0}, {-4096, 0}, {math.MinInt, 0}, {math.MinInt, 3}, {math.MinInt + 1, 0},
		{api.MaxRegion + 1, 0}, {api.MaxRegion + 1, 1}, {api.MaxRegion + 1, api.MaxRegion + 1}, {2 * api.MaxRegion, 0},
		{65536, 0}, {math.MaxInt32, 0}, {math.MaxInt, 0}, {math.MaxInt, 5},
		{0, 1}, {0, 4096}, {1, 2}, {2, 3}, {3, 4}, {4, 5}, {5, 100}, {255, 256}, {256, 257},
		{api.MaxRegion - 1, api.MaxRegion}, {api.MaxRegion, api.MaxRegion + 1}, {api.MaxRegion, 1 << 20},
	} {
		r, e := New(c.size, make([]byte, c.count))
		if r != nil || e != api.ErrArg {
			t.Errorf("New(%d, %d bytes): %v, error %d", c.size, c.count, r, e)
		}
	}
}

// P4.1, R4: what is handed in is not kept but by its content, and not changed, its spare room neither.
func TestNewKeepsContentAlone(t *testing.T) {
	room := []byte{1, 2, 3, 4, 5, 6, 7, 8}
	r := made(t, 6, room[:4]...)
	same, e := New(4, room[:4])
	if e != api.OK {
		t.Fatal(e)
	}
	if !bytes.Equal(room, []byte{1, 2, 3, 4, 5, 6, 7, 8}) {
		t.Fatalf("New changed %v", room)
	}
	for i := range room {
		room[i] = 99
	}
	holds(t, r, []byte{1, 2, 3, 4, 0, 0})
	holds(t, same, []byte{1, 2, 3, 4})
	if e := same.SetWord(0, 0x0a0b0c0d); e != api.OK {
		t.Fatal(e)
	}
	if e := same.SetByte(3, 77); e != api.OK {
		t.Fatal(e)
	}
	if !bytes.Equal(room, bytes.Repeat([]byte{99}, 8)) {
		t.Fatalf("a set byte came to what was handed in: %v", room)
	}
}

// R5: two regions of the same data share nothing.
func TestRegionsShareNothing(t *testing.T) {
	data := []byte{1, 2, 3, 4, 5}
	a, b := made(t, 5, data...), made(t, 5, data...)
	a.SetWord(0, top)
	a.SetByte(4, 200)
	holds(t, a, []byte{255, 255, 255, 255, 200})
	holds(t, b, data)
}

// P4.2: each number and byte that is there, at every place, and none beyond.
func TestWordAndByteTell(t *testing.T) {
	for _, size := range sizes() {
		all := counted(size)
		r := made(t, size, all...)
		for at := range size + 6 {
			n, e := r.Word(uint32(at))
			if at+4 <= size {
				if want := fourAt(all, at); n != want || e != api.OK {
					t.Fatalf("size %d: Word(%d) = %x, error %d, want %x", size, at, n, e, want)
				}
			} else if n != 0 || e != api.ErrRange {
				t.Fatalf("size %d: Word(%d) = %x, error %d, want ErrRange", size, at, n, e)
			}
			b, e := r.Byte(uint32(at))
			if at < size {
				if b != all[at] || e != api.OK {
					t.Fatalf("size %d: Byte(%d) = %d, error %d, want %d", size, at, b, e, all[at])
				}
			} else if b != 0 || e != api.ErrRange {
				t.Fatalf("size %d: Byte(%d) = %d, error %d, want ErrRange", size, at, b, e)
			}
		}
		holds(t, r, all)
	}
}

// P4.2: the highest byte is the first one, and none is taken with a sign.
func TestWordTellsHighestFirst(t *testing.T) {
	r := made(t, 12, 1, 0, 0, 0, 0, 0, 0, 1, 0x80, 0xff, 0x7f, 0xfe)
	for at, want := range []uint32{1 << 24, 0, 0, 0, 1, 0x180, 0x180ff, 0x180ff7f, 0x80ff7ffe} {
		if n, e := r.Word(uint32(at)); n != want || e != api.OK {
			t.Errorf("Word(%d) = %x, error %d, want %x", at, n, e, want)
		}
	}
	for at, want := range []uint8{0x80, 0xff, 0x7f, 0xfe} {
		if b, e := r.Byte(uint32(8 + at)); b != want || e != api.OK {
			t.Errorf("Byte(%d) = %x, error %d, want %x", 8+at, b, e, want)
		}
	}
}

// P4.2, P4.3: places do not go round, in regions of every size.
func TestPlacesDoNotGoRound(t *testing.T) {
	for _, size := range sizes() {
		all := counted(size)
		r := made(t, size, all...)
		for _, at := range beyond() {
			if n, e := r.Word(at); n != 0 || e != api.ErrRange {
				t.Errorf("size %d: Word(%d) = %x, error %d", size, at, n, e)
			}
			if b, e := r.Byte(at); b != 0 || e != api.ErrRange {
				t.Errorf("size %d: Byte(%d) = %d, error %d", size, at, b, e)
			}
			if e := r.SetWord(at, 0xa5a5a5a5); e != api.ErrRange {
				t.Errorf("size %d: SetWord(%d): error %d", size, at, e)
			}
			if e := r.SetByte(at, 0xa5); e != api.ErrRange {
				t.Errorf("size %d: SetByte(%d): error %d", size, at, e)
			}
		}
		holds(t, r, all)
	}
}

// P4.3, P4.5: a number's four bytes are set, the highest first, and no other one is; at the edge nothing is.
func TestSetWordSetsFourBytes(t *testing.T) {
	numbers := []uint32{0, 1, 255, 256, 0x01020304, 0x0a0b0c0d, 1<<31 - 1, 1 << 31, 0xfffefdfc, top}
	for _, size := range sizes() {
		for _, at := range []int{0, 1, 2, 3, 4, size / 2, size - 9, size - 5, size - 4, size - 3, size - 2, size - 1, size, size + 1} {
			if at < 0 {
				continue
			}
			for _, v := range numbers {
				checkSetWord(t, size, at, v)
			}
		}
	}
}

func checkSetWord(t *testing.T, size, at int, v uint32) {
	t.Helper()
	want := counted(size)
	r := made(t, size, want...)
	e := r.SetWord(uint32(at), v)
	if at+4 > size {
		if e != api.ErrRange {
			t.Fatalf("size %d: SetWord(%d, %x): error %d, want ErrRange", size, at, v, e)
		}
		holds(t, r, want)
		return
	}
	rest := uint64(v)
	for i := 3; i >= 0; i-- {
		want[at+i] = byte(rest % 256)
		rest /= 256
	}
	if e != api.OK {
		t.Fatalf("size %d: SetWord(%d, %x): error %d", size, at, v, e)
	}
	holds(t, r, want)
	if n, e := r.Word(uint32(at)); n != v || e != api.OK {
		t.Fatalf("size %d: Word(%d) = %x, error %d behind SetWord of %x", size, at, n, e, v)
	}
}

// P4.3, P4.5: one byte is set, and no other one is; at the edge none is.
func TestSetByteSetsOne(t *testing.T) {
	for _, size := range sizes() {
		for _, at := range []int{0, 1, 2, 3, 4, size / 2, size - 2, size - 1, size, size + 1, size + 4} {
			if at < 0 {
				continue
			}
			for _, v := range []uint8{0, 1, 127, 128, 254, 255} {
				checkSetByte(t, size, at, v)
			}
		}
	}
}

func checkSetByte(t *testing.T, size, at int, v uint8) {
	t.Helper()
	want := counted(size)
	r := made(t, size, want...)
	e := r.SetByte(uint32(at), v)
	if at >= size {
		if e != api.ErrRange {
			t.Fatalf("size %d: SetByte(%d, %d): error %d, want ErrRange", size, at, v, e)
		}
		holds(t, r, want)
		return
	}
	want[at] = v
	if e != api.OK {
		t.Fatalf("size %d: SetByte(%d, %d): error %d", size, at, v, e)
	}
	holds(t, r, want)
	if b, e := r.Byte(uint32(at)); b != v || e != api.OK {
		t.Fatalf("size %d: Byte(%d) = %d, error %d behind SetByte of %d", size, at, b, e, v)
	}
}

// P4.5: many sets, one upon the other, against a plain list; refused ones between them change nothing.
func TestSetsFollowEachOther(t *testing.T) {
	for _, size := range []int{0, 1, 3, 4, 5, 11, 64, api.MaxRegion} {
		r, want := made(t, size), make([]byte, size)
		seed := uint32(12345)
		for range 4000 {
			seed = seed*1664525 + 1013904223
			at, v := int(seed>>8)%(size+3), seed*2654435761
			if seed>>31 == 0 {
				if e := r.SetByte(uint32(at), byte(v)); (e == api.OK) != (at < size) {
					t.Fatalf("size %d: SetByte(%d): error %d", size, at, e)
				} else if e == api.OK {
					want[at] = byte(v)
				}
				continue
			}
			if e := r.SetWord(uint32(at), v); (e == api.OK) != (at+4 <= size) {
				t.Fatalf("size %d: SetWord(%d): error %d", size, at, e)
			} else if e == api.OK {
				want[at], want[at+1], want[at+2], want[at+3] = byte(v>>24), byte(v>>16), byte(v>>8), byte(v)
			}
		}
		holds(t, r, want)
	}
}

// P4.5: what is set at a size's last places is told by Word, Byte and Bytes alike.
func TestLastPlacesOfGreatestRegion(t *testing.T) {
	r := made(t, api.MaxRegion)
	last := uint32(api.MaxRegion - 4)
	if e := r.SetWord(last, 0xf1e2d3c4); e != api.OK {
		t.Fatalf("error %d", e)
	}
	if e := r.SetWord(last+1, 1); e != api.ErrRange {
		t.Fatalf("error %d", e)
	}
	for i, want := range []uint8{0xf1, 0xe2, 0xd3, 0xc4} {
		if b, e := r.Byte(last + uint32(i)); b != want || e != api.OK {
			t.Errorf("Byte(%d) = %x, error %d", last+uint32(i), b, e)
		}
	}
	want := make([]byte, api.MaxRegion)
	copy(want[last:], []byte{0xf1, 0xe2, 0xd3, 0xc4})
	holds(t, r, want)
}

// P4.4, R4: what Bytes tells is memory of its own, its spare room too.
func TestBytesTellsNewMemory(t *testing.T) {
	for _, size := range sizes() {
		want := counted(size)
		r := made(t, size, want...)
		first, second := r.Bytes(), r.Bytes()
		for i := range first {
			first[i] = 0
		}
		room := first[:cap(first)]
		for i := range room {
			room[i] = 0
		}
		if !bytes.Equal(second, want) {
			t.Fatalf("size %d: two answers share memory", size)
		}
		holds(t, r, want)
		spare := second[len(second):cap(second)]
		for i := range spare {
			spare[i] = 255
		}
		holds(t, r, want)
	}
}

// P4.4: an answer stays as it was told, whatever is set later on.
func TestBytesStayAsTold(t *testing.T) {
	r := made(t, 5, 1, 2, 3, 4, 5)
	told := r.Bytes()
	r.SetWord(0, top)
	r.SetByte(4, 0)
	if !bytes.Equal(told, []byte{1, 2, 3, 4, 5}) {
		t.Errorf("an answer changed: %v", told)
	}
	holds(t, r, []byte{255, 255, 255, 255, 0})
}

// R2, R3: a region that is not there answers ErrNil, at places that may not be as well, and does nothing.
func TestNoRegion(t *testing.T) {
	for _, r := range []*Region{nil, {}, new(Region)} {
		for _, at := range append(beyond(), 0, 1, 2, 3, 4) {
			if n, e := r.Word(at); n != 0 || e != api.ErrNil {
				t.Errorf("Word(%d) = %d, error %d", at, n, e)
			}
			if b, e := r.Byte(at); b != 0 || e != api.ErrNil {
				t.Errorf("Byte(%d) = %d, error %d", at, b, e)
			}
			if e := r.SetWord(at, 7); e != api.ErrNil {
				t.Errorf("SetWord(%d): error %d", at, e)
			}
			if e := r.SetByte(at, 7); e != api.ErrNil {
				t.Errorf("SetByte(%d): error %d", at, e)
			}
		}
		if all := r.Bytes(); len(all) != 0 {
			t.Errorf("Bytes() = %v", all)
		}
	}
}

// P4.1 to P4.4: a region of no bytes is one, and has no place.
func TestEmptyRegionIsThere(t *testing.T) {
	r := made(t, 0)
	if n, e := r.Word(0); n != 0 || e != api.ErrRange {
		t.Errorf("Word(0) = %d, error %d", n, e)
	}
	if b, e := r.Byte(0); b != 0 || e != api.ErrRange {
		t.Errorf("Byte(0) = %d, error %d", b, e)
	}
	if e := r.SetWord(0, 1); e != api.ErrRange {
		t.Errorf("SetWord(0): error %d", e)
	}
	if e := r.SetByte(0, 1); e != api.ErrRange {
		t.Errorf("SetByte(0): error %d", e)
	}
	holds(t, r, nil)
}

// The chapter's examples, in its order.
func TestChapterExamples(t *testing.T) {
	r := made(t, 6, 1, 2, 3, 4, 5)
	for _, c := range []struct {
		at, n uint32
		e     api.Errno
	}{{0, 0x01020304, api.OK}, {2, 0x03040500, api.OK}, {3, 0, api.ErrRange}, {1<<32 - 2, 0, api.ErrRange}} {
		if n, e := r.Word(c.at); n != c.n || e != c.e {
			t.Errorf("Word(%d) = %x, error %d", c.at, n, e)
		}
	}
	if b, e := r.Byte(5); b != 0 || e != api.OK {
		t.Errorf("Byte(5) = %d, error %d", b, e)
	}
	if b, e := r.Byte(6); b != 0 || e != api.ErrRange {
		t.Errorf("Byte(6) = %d, error %d", b, e)
	}
	if e := r.SetWord(1, 0x0a0b0c0d); e != api.OK {
		t.Errorf("SetWord(1): error %d", e)
	}
	holds(t, r, []byte{1, 10, 11, 12, 13, 0})
	if e := r.SetByte(6, 1); e != api.ErrRange {
		t.Errorf("SetByte(6): error %d", e)
	}
	holds(t, r, []byte{1, 10, 11, 12, 13, 0})
	for _, c := range []struct {
		size int
		data []byte
		e    api.Errno
	}{{-1, nil, api.ErrArg}, {4097, nil, api.ErrArg}, {1, []byte{1, 2}, api.ErrArg}, {0, nil, api.OK}} {
		if r, e := New(c.size, c.data); e != c.e || (r != nil) != (e == api.OK) {
			t.Errorf("New(%d, %v): %v, error %d", c.size, c.data, r, e)
		}
	}
}
