package units

import (
	"testing"

	"timekeeper/api"
)

const (
	round  = 1 << 32
	top    = round - 1
	middle = 1 << 31
)

// edges are the numbers at which something turns, and their neighbours.
func edges() []uint32 {
	return []uint32{
		0, 1, 2, 3, 5, 10, 12, 30, 31, 32, 33, 63, 64, 65, 255, 256, 65535, 65536, 65537, 0x55555555,
		middle - 2, middle - 1, middle, middle + 1, middle + 31, middle + 33, 0xaaaaaaaa,
		top - 65536, top - 32, top - 31, top - 1, top,
	}
}

// makers and comparers: the Ops that are promised, and no other one.
func makers() []api.Op {
	return []api.Op{api.OpAdd, api.OpSub, api.OpMul, api.OpAnd, api.OpOr, api.OpXor, api.OpLeft, api.OpRight}
}

func comparers() []api.Op {
	return []api.Op{api.OpSame, api.OpOther, api.OpLess, api.OpBelow}
}

func do(t *testing.T, o api.Op, a, b uint32) uint32 {
	t.Helper()
	n, e := Do(o, a, b)
	if e != api.OK {
		t.Fatalf("Do(%d, %d, %d): error %d", o, a, b, e)
	}
	return n
}

func holds(t *testing.T, o api.Op, a, b uint32) bool {
	t.Helper()
	ok, e := Holds(o, a, b)
	if e != api.OK {
		t.Fatalf("Holds(%d, %d, %d): error %d", o, a, b, e)
	}
	return ok
}

type making struct {
	o          api.Op
	a, b, want uint32
}

func checkMakings(t *testing.T, cases []making) {
	t.Helper()
	for _, c := range cases {
		if got := do(t, c.o, c.a, c.b); got != c.want {
			t.Errorf("Do(%d, %d, %d) = %d, want %d", c.o, c.a, c.b, got, c.want)
		}
	}
}

// P3.1: sums, differences and products go round at 32 bits.
func TestDoGoesRound(t *testing.T) {
	checkMakings(t, []making{
		{api.OpAdd, 0, 0, 0}, {api.OpAdd, 2, 3, 5}, {api.OpAdd, 65535, 1, 65536},
		{api.OpAdd, middle - 1, 1, middle}, {api.OpAdd, middle, middle, 0}, {api.OpAdd, middle - 1, middle, top},
		{api.OpAdd, top, 0, top}, {api.OpAdd, top, 1, 0}, {api.OpAdd, 1, top, 0}, {api.OpAdd, top, top, top - 1},
		{api.OpSub, 0, 0, 0}, {api.OpSub, 5, 3, 2}, {api.OpSub, 3, 5, top - 1}, {api.OpSub, 65536, 1, 65535},
		{api.OpSub, 0, 1, top}, {api.OpSub, 0, top, 1}, {api.OpSub, top, top, 0}, {api.OpSub, 0, middle, middle},
		{api.OpSub, middle - 1, middle, top}, {api.OpSub, middle, middle - 1, 1},
		{api.OpMul, 0, top, 0}, {api.OpMul, 1, top, top}, {api.OpMul, 6, 7, 42},
		{api.OpMul, 65535, 65535, 4294836225}, {api.OpMul, 65535, 65536, 4294901760}, {api.OpMul, 65536, 65536, 0},
		{api.OpMul, 65537, 65537, 131073}, {api.OpMul, middle, 2, 0}, {api.OpMul, middle, 3, middle},
		{api.OpMul, middle - 1, 2, top - 1}, {api.OpMul, middle - 1, middle - 1, 1}, {api.OpMul, top, top, 1},
		{api.OpMul, top, 2, top - 1}, {api.OpMul, middle, middle, 0},
	})
}

// P3.1
func TestDoBitByBit(t *testing.T) {
	checkMakings(t, []making{
		{api.OpAnd, 12, 10, 8}, {api.OpOr, 12, 10, 14}, {api.OpXor, 12, 10, 6},
		{api.OpAnd, top, 0, 0}, {api.OpOr, top, 0, top}, {api.OpXor, top, 0, top},
		{api.OpAnd, top, top, top}, {api.OpOr, top, top, top}, {api.OpXor, top, top, 0},
		{api.OpAnd, middle, middle - 1, 0}, {api.OpOr, middle, middle - 1, top}, {api.OpXor, middle, middle - 1, top},
		{api.OpAnd, 0x55555555, 0xaaaaaaaa, 0}, {api.OpOr, 0x55555555, 0xaaaaaaaa, top}, {api.OpXor, 0x55555555, top, 0xaaaaaaaa},
	})
}

// P3.1: only the lowest five bits of the second number tell how many places.
func TestDoByPlaces(t *testing.T) {
	checkMakings(t, []making{
		{api.OpLeft, 5, 0, 5}, {api.OpLeft, 5, 1, 10}, {api.OpLeft, 1, 31, middle}, {api.OpLeft, 5, 31, middle},
		{api.OpLeft, 5, 32, 5}, {api.OpLeft, 1, 33, 2}, {api.OpLeft, top, 31, middle}, {api.OpLeft, middle, 1, 0},
		{api.OpLeft, 3, 63, middle}, {api.OpLeft, 3, 64, 3}, {api.OpLeft, 3, middle, 3}, {api.OpLeft, 3, middle + 2, 12},
		{api.OpLeft, 3, 65536, 3}, {api.OpLeft, 3, top, middle}, {api.OpLeft, 3, top - 31, 3}, {api.OpLeft, 0, 7, 0},
		{api.OpRight, 5, 0, 5}, {api.OpRight, 5, 1, 2}, {api.OpRight, middle, 31, 1}, {api.OpRight, top, 31, 1},
		{api.OpRight, 5, 32, 5}, {api.OpRight, 8, 33, 4}, {api.OpRight, top, 1, middle - 1}, {api.OpRight, 1, 1, 0},
		{api.OpRight, middle, 63, 1}, {api.OpRight, 3, 64, 3}, {api.OpRight, 8, middle, 8}, {api.OpRight, 8, middle + 2, 2},
		{api.OpRight, 8, 65536, 8}, {api.OpRight, top, top, 1}, {api.OpRight, 8, top - 31, 8}, {api.OpRight, middle, 4, 1 << 27},
	})
}

// worked answers by numbers that have room enough, and bit after bit, what an Op makes.
func worked(o api.Op, a, b uint32) uint32 {
	switch o {
	case api.OpAdd:
		return uint32((uint64(a) + uint64(b)) % round)
	case api.OpSub:
		return uint32((round + uint64(a) - uint64(b)) % round)
	case api.OpMul:
		return uint32(uint64(a) * uint64(b) % round)
	}
	answer := uint32(0)
	places := int(b % 32)
	for i := range 32 {
		if workedBit(o, a, b, i, places) {
			answer += bitAt(i)
		}
	}
	return answer
}

func workedBit(o api.Op, a, b uint32, i, places int) bool {
	switch o {
	case api.OpAnd:
		return hasBit(a, i) && hasBit(b, i)
	case api.OpOr:
		return hasBit(a, i) || hasBit(b, i)
	case api.OpXor:
		return hasBit(a, i) != hasBit(b, i)
	case api.OpLeft:
		return hasBit(a, i-places)
	}
	return hasBit(a, i+places)
}

func bitAt(i int) uint32 {
	n := uint32(1)
	for range i {
		n *= 2
	}
	return n
}

func hasBit(a uint32, i int) bool { return i >= 0 && i < 32 && a/bitAt(i)%2 == 1 }

// P3.1: every Op at every pair of edges.
func TestDoAtAllEdges(t *testing.T) {
	for _, o := range makers() {
		for _, a := range edges() {
			for _, b := range edges() {
				if got, want := do(t, o, a, b), worked(o, a, b); got != want {
					t.Errorf("Do(%d, %d, %d) = %d, want %d", o, a, b, got, want)
				}
			}
		}
	}
}

// P3.1: every number of places, and what stands above its lowest five bits.
func TestDoAtAllPlaces(t *testing.T) {
	for _, o := range []api.Op{api.OpLeft, api.OpRight} {
		for _, a := range []uint32{1, middle, top, 0x12345678} {
			for low := range uint32(32) {
				for _, above := range []uint32{0, 32, 64, 96, 224, 256, 65536, middle, top - 31} {
					if got, want := do(t, o, a, above+low), worked(o, a, low); got != want {
						t.Errorf("Do(%d, %d, %d) = %d, want %d", o, a, above+low, got, want)
					}
				}
			}
		}
	}
}

// P3.1, P3.2: the other Ops, and what is none, answer ErrArg, and nothing beside it.
func TestOtherOps(t *testing.T) {
	makes, compares := map[api.Op]int{}, map[api.Op]int{}
	for _, o := range makers() {
		makes[o] = 1
	}
	for _, o := range comparers() {
		compares[o] = 1
	}
	for i := range 256 {
		o := api.Op(i)
		for _, a := range []uint32{0, 1, 7, middle, top} {
			for _, b := range []uint32{0, 1, 7, middle, top} {
				if n, e := Do(o, a, b); makes[o] == 1 && e != api.OK || makes[o] == 0 && (n != 0 || e != api.ErrArg) {
					t.Errorf("Do(%d, %d, %d) = %d, %d", o, a, b, n, e)
				}
				if ok, e := Holds(o, a, b); compares[o] == 1 && e != api.OK || compares[o] == 0 && (ok || e != api.ErrArg) {
					t.Errorf("Holds(%d, %d, %d) = %t, %d", o, a, b, ok, e)
				}
			}
		}
	}
}

// P3.2: the numbers that unlike signs tell apart, and like ones.
func TestHolds(t *testing.T) {
	cases := []struct {
		a, b                     uint32
		same, other, less, below bool
	}{
		{0, 0, true, false, false, false},
		{3, 3, true, false, false, false},
		{middle, middle, true, false, false, false},
		{top, top, true, false, false, false},
		{3, 4, false, true, true, true},
		{4, 3, false, true, false, false},
		{0, middle - 1, false, true, true, true},
		{middle - 1, 0, false, true, false, false},
		{middle, top, false, true, true, true},
		{top, middle, false, true, false, false},
		{top - 1, top, false, true, true, true},
		{top, top - 1, false, true, false, false},
		{0, top, false, true, false, true},
		{top, 0, false, true, true, false},
		{0, middle, false, true, false, true},
		{middle, 0, false, true, true, false},
		{middle - 1, middle, false, true, false, true},
		{middle, middle - 1, false, true, true, false},
		{middle - 1, top, false, true, false, true},
		{top, middle - 1, false, true, true, false},
		{1, top, false, true, false, true},
		{65536, 65535, false, true, false, false},
		{65535, 65536, false, true, true, true},
	}
	for _, c := range cases {
		want := map[api.Op]bool{api.OpSame: c.same, api.OpOther: c.other, api.OpLess: c.less, api.OpBelow: c.below}
		for _, o := range comparers() {
			if got := holds(t, o, c.a, c.b); got != want[o] {
				t.Errorf("Holds(%d, %d, %d) = %t, want %t", o, c.a, c.b, got, want[o])
			}
		}
	}
}

// order lists numbers from the least on: with a sign, if signed holds, else from 0 on.
func order(signed bool) []uint32 {
	low := []uint32{0, 1, 2, 31, 32, 65535, 65536, middle - 2, middle - 1}
	high := []uint32{middle, middle + 1, middle + 65536, top - 65535, top - 1, top}
	if signed {
		return append(high, low...)
	}
	return append(low, high...)
}

// P3.2: what stands earlier in the order is less, and nothing else is.
func TestHoldsInOrder(t *testing.T) {
	for _, o := range []api.Op{api.OpLess, api.OpBelow} {
		numbers := order(o == api.OpLess)
		for i, a := range numbers {
			for j, b := range numbers {
				if got := holds(t, o, a, b); got != (i < j) {
					t.Errorf("Holds(%d, %d, %d) = %t, want %t", o, a, b, got, i < j)
				}
			}
		}
	}
}

// P3.3: what is added is taken off again.
func TestAddedIsTakenOff(t *testing.T) {
	for _, a := range edges() {
		for _, b := range edges() {
			if got := do(t, api.OpSub, do(t, api.OpAdd, a, b), b); got != a {
				t.Errorf("%d and %d more, and %d less: %d", a, b, b, got)
			}
			if got := do(t, api.OpAdd, do(t, api.OpSub, a, b), b); got != a {
				t.Errorf("%d and %d less, and %d more: %d", a, b, b, got)
			}
		}
	}
}

// P3.3: just one of three holds, with a sign or without: the first is less, the second is, they are the same.
func TestOneIsLessOrTheyAreTheSame(t *testing.T) {
	for _, o := range []api.Op{api.OpLess, api.OpBelow} {
		for _, a := range edges() {
			for _, b := range edges() {
				count := 0
				for _, ok := range []bool{holds(t, o, a, b), holds(t, o, b, a), holds(t, api.OpSame, a, b)} {
					if ok {
						count++
					}
				}
				if count != 1 {
					t.Errorf("Op %d at %d and %d: %d of three hold", o, a, b, count)
				}
				if holds(t, api.OpSame, a, b) == holds(t, api.OpOther, a, b) {
					t.Errorf("%d and %d are the same and not, or neither", a, b)
				}
			}
		}
	}
}

// R5: a call hangs on nothing that was called before.
func TestCallsShareNothing(t *testing.T) {
	for range 3 {
		for _, o := range makers() {
			if got := do(t, o, 77, 33); got != worked(o, 77, 33) {
				t.Errorf("Do(%d, 77, 33) = %d", o, got)
			}
			if _, e := Holds(o, 77, 33); e != api.ErrArg {
				t.Errorf("Holds(%d, 77, 33): error %d", o, e)
			}
		}
		for _, o := range comparers() {
			if _, e := Do(o, 77, 33); e != api.ErrArg {
				t.Errorf("Do(%d, 77, 33): error %d", o, e)
			}
		}
	}
}

// The chapter's examples.
func TestExamples(t *testing.T) {
	checkMakings(t, []making{
		{api.OpAdd, top, 2, 1}, {api.OpSub, 1, 2, top}, {api.OpMul, 65536, 65536, 0},
		{api.OpLeft, 1, 33, 2}, {api.OpRight, middle, 31, 1}, {api.OpXor, 12, 10, 6},
	})
	if n, e := Do(api.OpNop, 1, 1); n != 0 || e != api.ErrArg {
		t.Errorf("Do(OpNop, 1, 1) = %d, %d", n, e)
	}
	if !holds(t, api.OpLess, top, 0) || holds(t, api.OpBelow, top, 0) {
		t.Error("2^32 - 1 is less than 0 with a sign, and not without")
	}
	if ok, e := Holds(api.OpAdd, 1, 1); ok || e != api.ErrArg {
		t.Errorf("Holds(OpAdd, 1, 1) = %t, %d", ok, e)
	}
}
