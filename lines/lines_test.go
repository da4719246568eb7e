package lines

import (
	"math"
	"testing"

	"timekeeper/api"
)

// ways is in how many ways lines may call, or be masked.
const ways = 256

// noLines are numbers of no line: the ones at the edges, ones that are a line's number in fewer bits, and ones far from both.
func noLines() []int {
	return []int{
		math.MinInt, math.MinInt + 1, math.MinInt32, -1 << 32, -1<<32 + 1, -257, -256, -255, -64, -9, -8, -7, -2, -1,
		8, 9, 10, 15, 16, 31, 32, 63, 64, 65, 127, 128, 255, 256, 257, 1 << 16, 1<<32 - 1, 1 << 32, 1<<32 + 1, math.MaxInt32, math.MaxInt - 1, math.MaxInt,
	}
}

// inState is lines of which these call and are masked, a bit for each. (It is called so often that its own calls go without helpers.)
func inState(t *testing.T, calls, masks int) *Lines {
	l := New()
	for line := range 8 {
		if calls>>line&1 == 1 && l.Raise(line) != api.OK || masks>>line&1 == 1 && l.Mask(line, true) != api.OK {
			t.Fatalf("line %d is refused", line)
		}
	}
	return l
}

func raises(t *testing.T, l *Lines, line int) {
	t.Helper()
	if e := l.Raise(line); e != api.OK {
		t.Fatalf("Raise(%d): error %d", line, e)
	}
}

func maskedBy(t *testing.T, l *Lines, line int, on bool) {
	t.Helper()
	if e := l.Mask(line, on); e != api.OK {
		t.Fatalf("Mask(%d, %v): error %d", line, on, e)
	}
}

func tells(t *testing.T, l *Lines, want int) {
	t.Helper()
	if line, e := l.Next(); line != want || e != api.OK {
		t.Fatalf("Next() = %d, error %d, want %d", line, e, want)
	}
}

func tellsNone(t *testing.T, l *Lines, want api.Errno) {
	t.Helper()
	if line, e := l.Next(); line != 0 || e != want {
		t.Fatalf("Next() = %d, error %d, want error %d", line, e, want)
	}
}

// stands tells whether these lines call and are masked, a bit for each.
func stands(t *testing.T, l *Lines, calls, masks int) {
	t.Helper()
	if c, m := l.Calls(), l.Masks(); int(c) != calls || int(m) != masks {
		t.Fatalf("Calls() = %08b, Masks() = %08b, want %08b and %08b", c, m, calls, masks)
	}
}

// refuses tells whether Raise and Mask both answer this error, and change nothing.
func refuses(t *testing.T, l *Lines, line int, want api.Errno) {
	t.Helper()
	calls, masks := l.Calls(), l.Masks()
	if e := l.Raise(line); e != want {
		t.Fatalf("Raise(%d): error %d, want %d", line, e, want)
	}
	for _, on := range []bool{true, false} {
		if e := l.Mask(line, on); e != want {
			t.Fatalf("Mask(%d, %v): error %d, want %d", line, on, e, want)
		}
	}
	stands(t, l, int(calls), int(masks))
}

// tellsAll takes all that are told of lines in this state, rising, and then nothing, again and again.
func tellsAll(t *testing.T, l *Lines, calls, masks int) {
	t.Helper()
	for line := range 8 {
		if calls>>line&1 == 0 || masks>>line&1 == 1 {
			continue
		}
		tells(t, l, line)
		calls -= 1 << line
		stands(t, l, calls, masks)
	}
	for range 2 {
		tellsNone(t, l, api.ErrEmpty)
		stands(t, l, calls, masks)
	}
}

// P9.1: none calls and none is masked, and the lines are 0 to 7.
func TestNewIsQuiet(t *testing.T) {
	l := New()
	if l == nil {
		t.Fatal("New() is nil")
	}
	for range 3 {
		stands(t, l, 0, 0)
		tellsNone(t, l, api.ErrEmpty)
	}
	for line := 7; line >= 0; line-- {
		raises(t, l, line)
	}
	stands(t, l, 255, 0)
	refuses(t, l, -1, api.ErrArg)
	refuses(t, l, api.MaxLines, api.ErrArg)
	tellsAll(t, l, 255, 0)
}

// P9.2: Raise of each line, in each state: it calls, if it called already or not, if it is masked or not; all else is as it was.
func TestRaise(t *testing.T) {
	for calls := range ways {
		for masks := range ways {
			for line := range 8 {
				l := inState(t, calls, masks)
				raises(t, l, line)
				stands(t, l, calls|1<<line, masks)
			}
		}
	}
}

// P9.2: Mask of each line, on and off, in each state: it is masked or not, whatever it was, and who calls is as it was.
func TestMask(t *testing.T) {
	for calls := range ways {
		for masks := range ways {
			for line := range 8 {
				l := inState(t, calls, masks)
				maskedBy(t, l, line, true)
				stands(t, l, calls, masks|1<<line)
				maskedBy(t, l, line, true)
				stands(t, l, calls, masks|1<<line)
				l = inState(t, calls, masks)
				maskedBy(t, l, line, false)
				stands(t, l, calls, masks&^(1<<line))
				maskedBy(t, l, line, false)
				stands(t, l, calls, masks&^(1<<line))
			}
		}
	}
}

// P9.2, R2: a line that is not there is refused, in each state, and nothing is changed: behind it Next tells the same.
func TestNoSuchLine(t *testing.T) {
	for calls := range ways {
		for masks := range ways {
			l := inState(t, calls, masks)
			refuses(t, l, -1, api.ErrArg)
			refuses(t, l, 8, api.ErrArg)
			tellsAll(t, l, calls, masks)
		}
	}
	for _, line := range noLines() {
		for _, state := range []int{0, 1, 2, 128, 0x5a, 255} {
			l := inState(t, state, 255-state)
			refuses(t, l, line, api.ErrArg)
			tellsAll(t, l, state, 255-state)
		}
	}
}

// R2, R3: with no lines ErrNil is told, ahead of ErrArg and ErrEmpty; the calls do nothing: a zero struct is still none behind them.
func TestNotThere(t *testing.T) {
	for _, l := range []*Lines{nil, {}} {
		for range 2 {
			for line := range 8 {
				refuses(t, l, line, api.ErrNil)
			}
			for _, line := range noLines() {
				refuses(t, l, line, api.ErrNil)
			}
			tellsNone(t, l, api.ErrNil)
			stands(t, l, 0, 0)
		}
	}
}

// P9.3: in each state the least line that calls and is not masked, which calls no more, until there is none.
func TestNext(t *testing.T) {
	for calls := range ways {
		for masks := range ways {
			tellsAll(t, inState(t, calls, masks), calls, masks)
		}
	}
}

// P9.3: the least one is of those that call now, be it raised ahead of the others or behind what was told.
func TestNextIsTheLeastNow(t *testing.T) {
	l := New()
	for _, line := range []int{6, 4, 7} {
		raises(t, l, line)
	}
	tells(t, l, 4)
	raises(t, l, 5)
	tells(t, l, 5)
	raises(t, l, 0)
	raises(t, l, 4)
	tells(t, l, 0)
	maskedBy(t, l, 4, true)
	tells(t, l, 6)
	maskedBy(t, l, 4, false)
	tells(t, l, 4)
	tells(t, l, 7)
	tellsNone(t, l, api.ErrEmpty)
}

// P9.4: of each line alone its own bit, the line 0 being the lowest; who calls is not who is masked, and asking changes nothing.
func TestEachLineHasItsBit(t *testing.T) {
	for line, bit := range []int{1, 2, 4, 8, 16, 32, 64, 128} {
		l := New()
		raises(t, l, line)
		for range 3 {
			stands(t, l, bit, 0)
		}
		tells(t, l, line)
		stands(t, l, 0, 0)
		maskedBy(t, l, line, true)
		for range 3 {
			stands(t, l, 0, bit)
		}
		maskedBy(t, l, line, false)
		stands(t, l, 0, 0)
	}
}

// P9.4: in each state, by whatever order the lines were raised and masked.
func TestBitsInEachState(t *testing.T) {
	for calls := range ways {
		for masks := range ways {
			stands(t, inState(t, calls, masks), calls, masks)
			l := New()
			for line := 7; line >= 0; line-- {
				maskedBy(t, l, line, masks>>line&1 == 1)
			}
			for line := 7; line >= 0; line-- {
				if calls>>line&1 == 1 {
					raises(t, l, line)
				}
			}
			stands(t, l, calls, masks)
		}
	}
}

// P9.5: a line that is masked calls on, be it raised ahead of its mask or behind it, and is told once, when it is not masked any more.
func TestMaskedCallsOn(t *testing.T) {
	for line := range 8 {
		for _, isRaisedFirst := range []bool{true, false} {
			l := New()
			if isRaisedFirst {
				raises(t, l, line)
			}
			maskedBy(t, l, line, true)
			if !isRaisedFirst {
				raises(t, l, line)
			}
			for range 3 {
				tellsNone(t, l, api.ErrEmpty)
				stands(t, l, 1<<line, 1<<line)
			}
			for other := range 8 {
				if other == line {
					continue
				}
				raises(t, l, other)
				tells(t, l, other)
			}
			stands(t, l, 1<<line, 1<<line)
			maskedBy(t, l, line, false)
			stands(t, l, 1<<line, 0)
			tells(t, l, line)
			tellsNone(t, l, api.ErrEmpty)
			stands(t, l, 0, 0)
		}
	}
}

// P9.5: in each state, what is masked is told once the masks are gone, and what was told is not told again.
func TestMasksGone(t *testing.T) {
	for calls := range ways {
		for masks := range ways {
			l := inState(t, calls, masks)
			tellsAll(t, l, calls, masks)
			for line := range 8 {
				maskedBy(t, l, line, false)
			}
			tellsAll(t, l, calls&masks, 0)
			stands(t, l, 0, 0)
		}
	}
}

// P9.5: each call is told once, however often the line was raised ahead of it, masked meanwhile or not; a line that is raised behind it is told again.
func TestToldOnce(t *testing.T) {
	for line := range 8 {
		l := New()
		for _, many := range []int{1, 2, 3, 255, 256, 257, 1000} {
			for i := range many {
				maskedBy(t, l, line, i%3 == 1)
				raises(t, l, line)
			}
			maskedBy(t, l, line, false)
			stands(t, l, 1<<line, 0)
			tells(t, l, line)
			stands(t, l, 0, 0)
			tellsNone(t, l, api.ErrEmpty)
		}
	}
}

// P9.5: a mask that comes and goes makes no call of its own.
func TestMaskMakesNoCall(t *testing.T) {
	for line := range 8 {
		l := New()
		for _, on := range []bool{false, true, true, false, false} {
			maskedBy(t, l, line, on)
			tellsNone(t, l, api.ErrEmpty)
		}
		stands(t, l, 0, 0)
	}
}

// R5: two share nothing: neither who calls nor who is masked.
func TestTwoShareNothing(t *testing.T) {
	one, other := New(), New()
	raises(t, one, 3)
	maskedBy(t, one, 4, true)
	stands(t, other, 0, 0)
	tellsNone(t, other, api.ErrEmpty)
	raises(t, other, 3)
	raises(t, other, 4)
	maskedBy(t, other, 3, true)
	stands(t, one, 8, 16)
	tells(t, other, 4)
	tells(t, one, 3)
	stands(t, one, 0, 16)
	stands(t, other, 8, 8)
	maskedBy(t, one, 4, false)
	maskedBy(t, other, 3, false)
	tells(t, other, 3)
	tellsNone(t, one, api.ErrEmpty)
	stands(t, New(), 0, 0)
}

// record is plain lines: of each whether it calls, and whether it is masked.
type record struct {
	calls, masks [8]bool
}

// next is the line that is told now, and whether there is one.
func (r *record) next() (int, bool) {
	for line := range 8 {
		if r.calls[line] && !r.masks[line] {
			return line, true
		}
	}
	return 0, false
}

func bitsOf(these [8]bool) int {
	told := 0
	for line, is := range these {
		if is {
			told += 1 << line
		}
	}
	return told
}

// step does one call with lines and the same with the record.
func (r *record) step(t *testing.T, l *Lines, call, line int) {
	t.Helper()
	switch call {
	case 0, 1:
		raises(t, l, line)
		r.calls[line] = true
	case 2, 3:
		maskedBy(t, l, line, call == 2)
		r.masks[line] = call == 2
	case 4:
		refuses(t, l, line+8, api.ErrArg)
		refuses(t, l, line-8, api.ErrArg)
	default:
		want, ok := r.next()
		if !ok {
			tellsNone(t, l, api.ErrEmpty)
			return
		}
		tells(t, l, want)
		r.calls[want] = false
	}
}

// All promises: a long run of calls answers as a plain record does.
func TestLongRunAgainstAPlainRecord(t *testing.T) {
	seed := uint32(1)
	draw := func(below int) int {
		seed = seed*1664525 + 1013904223
		return int(seed>>8) % below
	}
	for range 20 {
		l, r := New(), &record{}
		for range 5000 {
			r.step(t, l, draw(8), draw(8))
			stands(t, l, bitsOf(r.calls), bitsOf(r.masks))
		}
	}
}

// The chapter's examples.
func TestExamples(t *testing.T) {
	l := New()
	raises(t, l, 5)
	raises(t, l, 2)
	raises(t, l, 2)
	if c := l.Calls(); c != 36 {
		t.Errorf("Calls() = %d, want 36", c)
	}
	tells(t, l, 2)
	tells(t, l, 5)
	tellsNone(t, l, api.ErrEmpty)

	l = New()
	raises(t, l, 1)
	maskedBy(t, l, 1, true)
	tellsNone(t, l, api.ErrEmpty)
	if m := l.Masks(); m != 2 {
		t.Errorf("Masks() = %d, want 2", m)
	}
	maskedBy(t, l, 1, false)
	tells(t, l, 1)

	if e := l.Raise(8); e != api.ErrArg {
		t.Errorf("Raise(8): error %d, want ErrArg", e)
	}
	if e := l.Mask(-1, true); e != api.ErrArg {
		t.Errorf("Mask(-1, true): error %d, want ErrArg", e)
	}
}
