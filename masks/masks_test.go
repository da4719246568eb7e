package masks

import "testing"

const (
	every = 1<<32 - 1 // all bits
	width = 32
	yes   = true
	no    = false
)

// powers are the numbers of one bit, the lowest first.
func powers() []uint32 {
	told := []uint32{1}
	for len(told) < width {
		told = append(told, told[len(told)-1]*2)
	}
	return told
}

// bitsOf a number, the lowest first, told by division alone.
func bitsOf(n uint32) [width]bool {
	var told [width]bool
	for i := range told {
		told[i] = n%2 == 1
		n /= 2
	}
	return told
}

// numberOf is a number again, told by adding alone.
func numberOf(bits [width]bool) uint32 {
	told := uint32(0)
	for i, p := range powers() {
		if bits[i] {
			told += p
		}
	}
	return told
}

// seen is what a plain look at each bit tells of flags and of what is wanted.
type seen struct {
	all, any bool
	met      uint32
	left     uint32 // the flags that are not wanted
}

func look(flags, want uint32) seen {
	told := seen{all: true}
	there, wanted := bitsOf(flags), bitsOf(want)
	var met, left [width]bool
	for i := range width {
		switch {
		case wanted[i] && there[i]:
			told.any = true
			met[i] = true
		case wanted[i]:
			told.all = false
		case there[i]:
			left[i] = true
		}
	}
	told.met, told.left = numberOf(met), numberOf(left)
	return told
}

// some numbers: no bit, all bits, patterns, one bit, all but one, all from or up to one, and others.
func some() []uint32 {
	told := []uint32{0, every, 0x55555555, 0xaaaaaaaa, 0x0000ffff, 0xffff0000, 0x00ff00ff, 0x80000001, 0x7ffffffe, 3, 5, 7, 12}
	for _, p := range powers() {
		told = append(told, p, every-p, p-1, every-(p-1))
	}
	n := uint32(777)
	for range 60 {
		n = next(n)
		told = append(told, n, n^n>>16)
	}
	return told
}

// next number of a row that looks as if it had no rule.
func next(n uint32) uint32 { return n*1664525 + 1013904223 }

func holds(t *testing.T, flags, want uint32, all, is bool) {
	t.Helper()
	if got := Holds(flags, want, all); got != is {
		t.Errorf("Holds(%#x, %#x, %t) = %t, want %t", flags, want, all, got, is)
	}
}

func met(t *testing.T, flags, want, is uint32) {
	t.Helper()
	if got := Met(flags, want); got != is {
		t.Errorf("Met(%#x, %#x) = %#x, want %#x", flags, want, got, is)
	}
}

func after(t *testing.T, flags, want uint32, all, gone bool, is uint32) {
	t.Helper()
	if got := After(flags, want, all, gone); got != is {
		t.Errorf("After(%#x, %#x, %t, %t) = %#x, want %#x", flags, want, all, gone, got, is)
	}
}

// agrees holds every call against a plain look at each bit.
func agrees(t *testing.T, flags, want uint32) {
	t.Helper()
	is := look(flags, want)
	goneAll, goneAny := flags, flags
	if is.all {
		goneAll = is.left
	}
	if is.any {
		goneAny = is.left
	}
	holds(t, flags, want, yes, is.all)
	holds(t, flags, want, no, is.any)
	met(t, flags, want, is.met)
	after(t, flags, want, yes, yes, goneAll)
	after(t, flags, want, no, yes, goneAny)
	after(t, flags, want, yes, no, flags)
	after(t, flags, want, no, no, flags)
}

// P12.1: where nothing is wanted, all holds and any does not, whatever the flags are.
func TestHoldsOfNothingWanted(t *testing.T) {
	for _, flags := range some() {
		holds(t, flags, 0, yes, true)
		holds(t, flags, 0, no, false)
	}
}

// P12.1: one bit is wanted, each of the 32; then all and any are the same.
func TestHoldsOfOneBit(t *testing.T) {
	for i, p := range powers() {
		for _, flags := range some() {
			is := bitsOf(flags)[i]
			holds(t, flags, p, yes, is)
			holds(t, flags, p, no, is)
		}
		for _, all := range []bool{yes, no} {
			holds(t, p, p, all, true)
			holds(t, every, p, all, true)
			holds(t, 0, p, all, false)
			holds(t, every-p, p, all, false)
		}
	}
}

// P12.1: two bits are wanted, of which both, one and none are in the flags.
func TestHoldsOfTwoBits(t *testing.T) {
	for i, p := range powers() {
		for _, q := range powers()[:i] {
			for _, others := range []uint32{0, every - p - q} {
				holds(t, others+p+q, p+q, yes, true)
				holds(t, others+p+q, p+q, no, true)
				holds(t, others+p, p+q, yes, false)
				holds(t, others+p, p+q, no, true)
				holds(t, others+q, p+q, yes, false)
				holds(t, others+q, p+q, no, true)
				holds(t, others, p+q, yes, false)
				holds(t, others, p+q, no, false)
			}
		}
	}
}

// P12.1: all bits are wanted, or all are there, or none is.
func TestHoldsAtTheEnds(t *testing.T) {
	for _, n := range some() {
		holds(t, every, n, yes, true)
		holds(t, every, n, no, n != 0)
		holds(t, 0, n, yes, n == 0)
		holds(t, 0, n, no, false)
		holds(t, n, every, yes, n == every)
		holds(t, n, every, no, n != 0)
		holds(t, every-n, n, yes, n == 0)
		holds(t, every-n, n, no, false)
	}
}

// P12.2: each bit by itself.
func TestMet(t *testing.T) {
	for i, p := range powers() {
		for j, q := range powers() {
			is := uint32(0)
			if i == j {
				is = p
			}
			met(t, p, q, is)
			met(t, every-p, every-q, every-p-q+is)
		}
	}
	for _, n := range some() {
		met(t, n, 0, 0)
		met(t, 0, n, 0)
		met(t, n, n, n)
		met(t, n, every, n)
		met(t, every, n, n)
		met(t, n, every-n, 0)
	}
}

// P12.2: which one is handed in first does not matter.
func TestMetOfBoth(t *testing.T) {
	for _, n := range some() {
		for _, m := range some() {
			met(t, n, m, Met(m, n))
		}
	}
}

// P12.3: one bit is wanted, each of the 32; the others stay.
func TestAfterOfOneBit(t *testing.T) {
	for _, p := range powers() {
		for _, all := range []bool{yes, no} {
			after(t, every, p, all, yes, every-p)
			after(t, every, p, all, no, every)
			after(t, p, p, all, yes, 0)
			after(t, p, p, all, no, p)
			after(t, every-p, p, all, yes, every-p)
			after(t, 0, p, all, yes, 0)
		}
	}
}

// P12.3: two bits are wanted, of which both, one and none are there; of any, the one goes; of all, it stays.
func TestAfterOfTwoBits(t *testing.T) {
	for i, p := range powers() {
		for _, q := range powers()[:i] {
			for _, others := range []uint32{0, every - p - q} {
				after(t, others+p+q, p+q, yes, yes, others)
				after(t, others+p+q, p+q, no, yes, others)
				after(t, others+p, p+q, yes, yes, others+p)
				after(t, others+p, p+q, no, yes, others)
				after(t, others+q, p+q, yes, yes, others+q)
				after(t, others+q, p+q, no, yes, others)
				after(t, others, p+q, yes, yes, others)
				after(t, others, p+q, no, yes, others)
			}
		}
	}
}

// P12.3: where nothing is wanted, or nothing goes, or it does not hold, the flags stay as they were.
func TestAfterStays(t *testing.T) {
	for _, flags := range some() {
		for _, all := range []bool{yes, no} {
			for _, gone := range []bool{yes, no} {
				after(t, flags, 0, all, gone, flags)
				after(t, flags, every-flags, all, gone, flags)
			}
			for _, want := range some() {
				after(t, flags, want, all, no, flags)
				if !Holds(flags, want, all) {
					after(t, flags, want, all, yes, flags)
				}
			}
		}
	}
}

// P12.3: bits that were not wanted are behind it what they were ahead of it.
func TestAfterLeavesTheOthers(t *testing.T) {
	for _, flags := range some() {
		for _, want := range some() {
			for _, all := range []bool{yes, no} {
				got := bitsOf(After(flags, want, all, yes))
				ahead, wanted := bitsOf(flags), bitsOf(want)
				for i := range width {
					if !wanted[i] && got[i] != ahead[i] {
						t.Fatalf("After(%#x, %#x, %t, true): bit %d, which was not wanted, is %t", flags, want, all, i, got[i])
					}
				}
			}
		}
	}
}

// P12.4: what holds of all holds of any, if something is wanted.
func TestAllIsAny(t *testing.T) {
	held := 0
	for _, flags := range some() {
		for _, want := range some() {
			if want != 0 && Holds(flags, want, yes) {
				held++
				holds(t, flags, want, no, true)
			}
		}
	}
	if held == 0 {
		t.Error("nothing held of all")
	}
}

// P12.4: with more flags what held holds.
func TestMoreFlags(t *testing.T) {
	for _, flags := range some() {
		for _, want := range some() {
			for _, all := range []bool{yes, no} {
				if !Holds(flags, want, all) {
					continue
				}
				for _, more := range powers() {
					holds(t, flags|more, want, all, true)
				}
				for _, more := range []uint32{want, 0xaaaaaaaa, 0x0000ffff, every} {
					holds(t, flags|more, want, all, true)
				}
			}
		}
	}
}

// P12.4: behind it, gone, nothing that was wanted is there.
func TestNothingWantedIsLeft(t *testing.T) {
	for _, flags := range some() {
		for _, want := range some() {
			for _, all := range []bool{yes, no} {
				if !Holds(flags, want, all) {
					continue
				}
				left := After(flags, want, all, yes)
				met(t, left, want, 0)
				holds(t, left, want, no, false)
				holds(t, left, want, yes, want == 0)
			}
		}
	}
}

// P12.1 to P12.3: all small numbers, at the lowest bits, at the highest ones and between them.
func TestSmallNumbers(t *testing.T) {
	for _, up := range []int{0, 14, 27} {
		for flags := range uint32(32) {
			for want := range uint32(32) {
				agrees(t, flags<<up, want<<up)
			}
		}
	}
}

// P12.1 to P12.3: the chosen numbers, each with each.
func TestChosenNumbers(t *testing.T) {
	for _, flags := range some() {
		for _, want := range some() {
			agrees(t, flags, want)
		}
	}
}

// P12.1 to P12.3: long runs; what is wanted is often a part of the flags, or has few bits, so that each answer comes up.
func TestLongRuns(t *testing.T) {
	for seed := range uint32(8) {
		n := seed
		for range 4000 {
			n = next(n)
			flags := n ^ n>>16
			n = next(n)
			want := n ^ n>>16
			n = next(n)
			agrees(t, flags, want)
			agrees(t, flags, want&flags)
			agrees(t, flags, want&flags|1<<(n>>27))
			agrees(t, flags, 1<<(n>>27)|1<<(n>>22%width))
			agrees(t, flags&want, want)
		}
	}
}

// R5: what was asked ahead of it does not matter.
func TestAskedAgain(t *testing.T) {
	for range 3 {
		holds(t, 12, 5, yes, false)
		after(t, 12, 5, no, yes, 8)
		holds(t, 12, 5, no, true)
		after(t, 12, 5, yes, yes, 12)
		met(t, 12, 5, 4)
	}
}

// P12.1 to P12.3: the chapter's examples.
func TestExamples(t *testing.T) {
	holds(t, 12, 4, yes, true)
	holds(t, 12, 5, yes, false)
	holds(t, 12, 5, no, true)
	holds(t, 12, 3, no, false)
	holds(t, 0, 0, yes, true)
	holds(t, 7, 0, no, false)
	met(t, 12, 5, 4)
	after(t, 12, 5, no, yes, 8)
	after(t, 12, 5, yes, yes, 12)
	after(t, 12, 4, yes, no, 12)
}
