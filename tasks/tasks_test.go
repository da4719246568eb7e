package tasks

import (
	"fmt"
	"math"
	"strconv"
	"strings"
	"testing"

	"timekeeper/api"
)

const (
	most32 = math.MaxUint32
	round  = 1 << 32
)

// next number of a row that looks as if it had no rule.
func next(n uint32) uint32 { return n*1664525 + 1013904223 }

// dice answer numbers below a bound, the same ones in each run.
type dice struct{ n uint32 }

func (d *dice) below(most int) int {
	d.n = next(d.n)
	return int(d.n>>8) % most
}

func one[T any](d *dice, of []T) T { return of[d.below(len(of))] }

// A task of each way in which one may be seen; of numbers that differ, so that none stands in for another.
func readyTask() api.Task {
	return api.Task{Handle: 771, State: api.StReady, Base: 4, Rank: 9, Answers: 12, Last: 8, Value: 77}
}

func faultTask() api.Task {
	return api.Task{Handle: 772, State: api.StFault, Base: 3, Rank: 8, Answers: 13, Last: 15, Value: 78}
}

func waitingTask() api.Task {
	return api.Task{
		Handle: 773, State: api.StWaits, Base: 5, Rank: 7, Answers: 14, Last: 10, Value: 79,
		Waits: api.Ask{What: api.WhTake, H: 514, V: 31, M: 32, Wait: 60}, Left: 41,
	}
}

func endlessTask() api.Task {
	x := waitingTask()
	x.Handle, x.Waits.Wait, x.Left = 774, -1, -1
	return x
}

func allTasks() []api.Task {
	return []api.Task{readyTask(), faultTask(), waitingTask(), endlessTask()}
}

// with answers a task that differs from another in what is done to it.
func with(x api.Task, change func(*api.Task)) api.Task {
	change(&x)
	return x
}

// waitsOf is a plain reading of what may wait.
func waitsOf() map[api.What]bool {
	return map[api.What]bool{
		api.WhSleep: true, api.WhTake: true, api.WhLock: true, api.WhPut: true,
		api.WhPush: true, api.WhGet: true, api.WhAwait: true, api.WhAlloc: true,
	}
}

// kindOf is a plain reading of what is asked of which kind.
func kindOf() map[api.What]api.Kind {
	return map[api.What]api.Kind{
		api.WhTake: api.KiCount, api.WhGive: api.KiCount,
		api.WhLock: api.KiLock, api.WhUnlock: api.KiLock,
		api.WhPut: api.KiRow, api.WhPush: api.KiRow, api.WhGet: api.KiRow, api.WhPeek: api.KiRow,
		api.WhAwait: api.KiFlags, api.WhRaise: api.KiFlags, api.WhLower: api.KiFlags,
		api.WhAlloc: api.KiPool, api.WhFree: api.KiPool,
		api.WhStart: api.KiAlarm, api.WhStop: api.KiAlarm,
	}
}

// wrong is a plain reading of when a task may be seen so: the first part that is not so, or nothing.
func wrong(x api.Task) string {
	if x.Handle == 0 {
		return "Handle"
	}
	if x.State != api.StReady && x.State != api.StWaits && x.State != api.StFault {
		return "State"
	}
	if x.Base < 0 || x.Base > 31 {
		return "Base"
	}
	if x.Rank < x.Base || x.Rank > 31 {
		return "Rank"
	}
	if x.Answers < 0 {
		return "Answers"
	}
	if x.Last < 0 || x.Last > 15 {
		return "Last"
	}
	if x.State == api.StWaits {
		return wrongWait(x.Waits, x.Left)
	}
	w := x.Waits
	if w.What != 0 || w.H != 0 || w.V != 0 || w.M != 0 || w.Wait != 0 {
		return "Waits"
	}
	if x.Left != 0 {
		return "Left"
	}
	return ""
}

func wrongWait(w api.Ask, left int64) string {
	if !waitsOf()[w.What] {
		return "What"
	}
	if w.Wait == 0 || w.Wait > 1073741824 {
		return "Wait"
	}
	if w.Wait < 0 && left >= 0 {
		return "Left for ever"
	}
	if w.Wait > 0 && (left < 1 || left > w.Wait) {
		return "Left"
	}
	return ""
}

// plainText is a plain reading of a task's text.
func plainText(x api.Task) string {
	if wrong(x) != "" {
		return ""
	}
	state := map[api.State]string{api.StReady: "ready", api.StWaits: "waits", api.StFault: "fault"}[x.State]
	held := "-"
	if x.Held {
		held = "held"
	}
	waits := "-"
	if x.State == api.StWaits {
		waits = fmt.Sprintf("%d %d %d %d %d", x.Waits.What, x.Waits.H, x.Waits.V, x.Waits.M, x.Left)
	}
	return fmt.Sprintf("%d %s %s %d %d %s %d %d %d", x.Handle, state, held, x.Base, x.Rank, waits, x.Answers, int(x.Last), x.Value)
}

// check holds Check and Text together: a text there is just of tasks that may be seen so.
func check(t *testing.T, x api.Task, is bool) {
	t.Helper()
	if got := Check(x); got != is {
		t.Errorf("Check(%+v) = %t, want %t", x, got, is)
	}
	if got := Text(x); (got != "") != is {
		t.Errorf("Text(%+v) = %q", x, got)
	}
}

func text(t *testing.T, x api.Task, is string) {
	t.Helper()
	if got := Text(x); got != is {
		t.Errorf("Text(%+v) = %q, want %q", x, got, is)
	}
}

// agrees holds the calls of a task against a plain reading, and twice: what they answer hangs on the task alone.
func agrees(t *testing.T, x api.Task) {
	t.Helper()
	for range 2 {
		check(t, x, wrong(x) == "")
		text(t, x, plainText(x))
	}
}

// P14.1: tasks that may be seen so; and the zero one may not.
func TestCheck(t *testing.T) {
	for _, x := range allTasks() {
		check(t, x, true)
		x.Held = true
		check(t, x, true)
	}
	check(t, api.Task{}, false)
	for state := api.StReady; state <= api.StFault; state++ {
		check(t, api.Task{State: state}, false)
	}
	check(t, api.Task{Handle: 1}, false)
	check(t, api.Task{Handle: 1, State: api.StReady}, true)
	check(t, api.Task{Handle: 1, State: api.StFault}, true)
	check(t, api.Task{Handle: 1, State: api.StWaits}, false)
	check(t, api.Task{Handle: 1, State: api.StWaits, Waits: api.Ask{What: api.WhSleep, Wait: 1}, Left: 1}, true)
}

// P14.1: the handle is any number but 0.
func TestCheckHandle(t *testing.T) {
	for _, x := range allTasks() {
		for _, h := range []uint32{0, 1, 2, 255, 256, 1<<31 - 1, 1 << 31, most32 - 1, most32} {
			x.Handle = h
			check(t, x, h != 0)
		}
	}
}

// P14.1: each state, and all numbers that are none; one that waits may not be seen as one that does not, nor the other way round.
func TestCheckState(t *testing.T) {
	for _, x := range allTasks() {
		waits := x.State == api.StWaits
		for n := range 256 {
			x.State = api.State(n)
			switch x.State {
			case api.StReady, api.StFault:
				check(t, x, !waits)
			case api.StWaits:
				check(t, x, waits)
			default:
				check(t, x, false)
			}
		}
	}
}

// P14.1: Base and Rank at and around their bounds, each with each.
func TestCheckRanks(t *testing.T) {
	ranks := []int{math.MinInt, math.MinInt32, -round, -256, -32, 255, 256, 287, round, round + 5, math.MaxInt32, math.MaxInt}
	for n := -3; n <= 35; n++ {
		ranks = append(ranks, n)
	}
	for _, x := range allTasks() {
		for _, x.Base = range ranks {
			for _, x.Rank = range ranks {
				check(t, x, 0 <= x.Base && x.Base <= x.Rank && x.Rank <= 31)
			}
		}
	}
}

// P14.1: one part alone at and beyond each bound of the ranks.
func TestCheckRankBounds(t *testing.T) {
	cases := []struct {
		base, rank int
		is         bool
	}{
		{0, 0, true}, {0, 31, true}, {31, 31, true}, {30, 31, true}, {5, 5, true}, {5, 6, true},
		{-1, 0, false}, {-1, 31, false}, {-1, -1, false}, {0, 32, false}, {31, 32, false}, {32, 32, false}, {32, 31, false},
		{5, 4, false}, {31, 30, false}, {1, 0, false}, {0, -1, false},
	}
	for _, x := range allTasks() {
		for _, c := range cases {
			x.Base, x.Rank = c.base, c.rank
			check(t, x, c.is)
		}
	}
}

// P14.1: how many answers there were, from 0 on.
func TestCheckAnswers(t *testing.T) {
	for _, x := range allTasks() {
		for _, n := range []int{math.MinInt, math.MinInt32, -round, -2, -1} {
			x.Answers = n
			check(t, x, false)
		}
		for _, n := range []int{0, 1, 2, 31, 32, 1 << 30, 1<<30 + 1, math.MaxInt32, 1 << 31, round, math.MaxInt} {
			x.Answers = n
			check(t, x, true)
		}
	}
}

// P14.1: the last answer is OK or one of the errors.
func TestCheckLast(t *testing.T) {
	for _, x := range allTasks() {
		for n := -300; n <= 300; n++ {
			x.Last = api.Errno(n)
			check(t, x, 0 <= n && n <= 15)
		}
		for _, n := range []int{math.MinInt, math.MinInt32, -round, -round + 3, round, round + 3, math.MaxInt32, math.MaxInt} {
			x.Last = api.Errno(n)
			check(t, x, false)
		}
	}
}

// P14.1: the value that came with it, and whether it is held, may be any.
func TestCheckValue(t *testing.T) {
	for _, x := range allTasks() {
		for _, x.Held = range []bool{false, true} {
			for _, x.Value = range []uint32{0, 1, 1 << 31, most32} {
				check(t, x, true)
			}
		}
	}
}

// P14.1: of one that waits, each What.
func TestCheckWhat(t *testing.T) {
	may := waitsOf()
	for _, x := range []api.Task{waitingTask(), endlessTask()} {
		for n := range 256 {
			x.Waits.What = api.What(n)
			check(t, x, may[x.Waits.What])
		}
	}
}

// P14.1: of one that waits, of whom, V and M may be any.
func TestCheckAsked(t *testing.T) {
	numbers := []uint32{0, 1, 1 << 31, most32}
	for _, x := range []api.Task{waitingTask(), endlessTask()} {
		for _, x.Waits.H = range numbers {
			for _, x.Waits.V = range numbers {
				for _, x.Waits.M = range numbers {
					check(t, x, true)
				}
			}
		}
	}
}

// P14.1: of one that waits, Wait and Left at and around their bounds.
func TestCheckWaitBounds(t *testing.T) {
	const most = 1 << 30
	cases := []struct {
		wait, left int64
		is         bool
	}{
		{0, 0, false}, {0, 1, false}, {0, -1, false},
		{1, 0, false}, {1, 1, true}, {1, 2, false}, {1, -1, false},
		{60, 0, false}, {60, 1, true}, {60, 59, true}, {60, 60, true}, {60, 61, false}, {60, -1, false}, {60, -60, false},
		{most - 1, most - 1, true}, {most - 1, most, false},
		{most, 0, false}, {most, 1, true}, {most, most, true}, {most, most + 1, false}, {most, -1, false},
		{most + 1, 1, false}, {most + 1, most, false}, {most + 1, most + 1, false}, {most + 1, -1, false},
		{-1, 0, false}, {-1, 1, false}, {-1, -1, true}, {-1, -2, true}, {-1, math.MinInt64, true}, {-1, math.MaxInt64, false},
		{-60, -60, true}, {-60, -61, true}, {-60, -1, true}, {-60, 0, false}, {-60, 1, false}, {-60, 60, false},
		{-most - 1, -1, true}, {-most - 1, 1, false},
		{math.MinInt64, -1, true}, {math.MinInt64, math.MinInt64, true}, {math.MinInt64, 0, false}, {math.MinInt64, math.MaxInt64, false},
		{math.MaxInt64, 1, false}, {math.MaxInt64, math.MaxInt64, false}, {math.MaxInt64, -1, false},
		{round, 1, false}, {round + 60, 41, false}, {60, round + 41, false}, {-round, -round, true}, {-round + 60, 41, false},
	}
	for _, x := range []api.Task{waitingTask(), endlessTask()} {
		for w := range waitsOf() {
			for _, c := range cases {
				x.Waits.What, x.Waits.Wait, x.Left = w, c.wait, c.left
				check(t, x, c.is)
			}
		}
	}
}

// P14.1: of short waits, each Wait with each Left.
func TestCheckWaitLeft(t *testing.T) {
	x := waitingTask()
	for wait := int64(-20); wait <= 20; wait++ {
		for left := int64(-25); left <= 25; left++ {
			x.Waits.Wait, x.Left = wait, left
			check(t, x, wait < 0 && left < 0 || 1 <= left && left <= wait)
		}
	}
}

// P14.1: one that does not wait waits for nothing at all, in no part.
func TestCheckWaitsForNothing(t *testing.T) {
	for _, x := range []api.Task{readyTask(), faultTask()} {
		for n := range 256 {
			check(t, with(x, func(x *api.Task) { x.Waits.What = api.What(n) }), n == 0)
		}
		for _, n := range []uint32{0, 1, 2, 256, 1 << 31, most32} {
			check(t, with(x, func(x *api.Task) { x.Waits.H = n }), n == 0)
			check(t, with(x, func(x *api.Task) { x.Waits.V = n }), n == 0)
			check(t, with(x, func(x *api.Task) { x.Waits.M = n }), n == 0)
		}
		for _, n := range []int64{math.MinInt64, -round, -1, 0, 1, 1 << 30, round, math.MaxInt64} {
			check(t, with(x, func(x *api.Task) { x.Waits.Wait = n }), n == 0)
			check(t, with(x, func(x *api.Task) { x.Left = n }), n == 0)
			check(t, with(x, func(x *api.Task) { x.Waits.Wait, x.Left = n, n }), n == 0)
		}
		check(t, with(x, func(x *api.Task) { x.Waits, x.Left = waitingTask().Waits, waitingTask().Left }), false)
	}
}

// P14.2: each What that is asked, told one by one, so that no list stands in for the chapter's.
func TestBlocksOfEach(t *testing.T) {
	cases := []struct {
		w  api.What
		is bool
	}{
		{api.WhNone, false}, {api.WhYield, false}, {api.WhSleep, true}, {api.WhTake, true}, {api.WhGive, false},
		{api.WhLock, true}, {api.WhUnlock, false}, {api.WhPut, true}, {api.WhPush, true}, {api.WhGet, true}, {api.WhPeek, false},
		{api.WhAwait, true}, {api.WhRaise, false}, {api.WhLower, false}, {api.WhAlloc, true}, {api.WhFree, false},
		{api.WhStart, false}, {api.WhStop, false}, {api.WhRank, false}, {api.WhNow, false}, {api.WhEnd, false},
		{api.WhEnd + 1, false}, {255, false},
	}
	for _, c := range cases {
		for _, wait := range []int64{-1, 0, 1} {
			if got := Blocks(api.Ask{What: c.w, Wait: wait}); got != (c.is && wait != 0) {
				t.Errorf("Blocks(What %d, Wait %d) = %t", c.w, wait, got)
			}
		}
	}
}

// P14.2: all numbers of What, and a Wait of any size: whether it is too long isn't asked here. Nothing else of what is asked matters.
func TestBlocks(t *testing.T) {
	may := waitsOf()
	waits := []int64{math.MinInt64, -round, -1 << 30, -2, -1, 0, 1, 2, 256, 1 << 30, 1<<30 + 1, 1 << 31, round, math.MaxInt64}
	for n := range 256 {
		for _, wait := range waits {
			for _, other := range []uint32{0, 1, most32} {
				a := api.Ask{What: api.What(n), H: other, V: other, M: other, Wait: wait}
				if got := Blocks(a); got != (may[a.What] && wait != 0) {
					t.Errorf("Blocks(%+v) = %t", a, got)
				}
			}
		}
	}
}

// P14.3: each What that is asked, told one by one.
func TestFitsOfEach(t *testing.T) {
	cases := []struct {
		w api.What
		k api.Kind
	}{
		{api.WhNone, api.KiNone}, {api.WhYield, api.KiNone}, {api.WhSleep, api.KiNone},
		{api.WhTake, api.KiCount}, {api.WhGive, api.KiCount}, {api.WhLock, api.KiLock}, {api.WhUnlock, api.KiLock},
		{api.WhPut, api.KiRow}, {api.WhPush, api.KiRow}, {api.WhGet, api.KiRow}, {api.WhPeek, api.KiRow},
		{api.WhAwait, api.KiFlags}, {api.WhRaise, api.KiFlags}, {api.WhLower, api.KiFlags},
		{api.WhAlloc, api.KiPool}, {api.WhFree, api.KiPool}, {api.WhStart, api.KiAlarm}, {api.WhStop, api.KiAlarm},
		{api.WhRank, api.KiNone}, {api.WhNow, api.KiNone}, {api.WhEnd, api.KiNone}, {api.WhEnd + 1, api.KiNone}, {255, api.KiNone},
	}
	for _, c := range cases {
		for k := api.KiNone; k <= api.KiAlarm+1; k++ {
			is := k == c.k && k != api.KiNone
			if got := Fits(api.Ask{What: c.w}, k); got != is {
				t.Errorf("Fits(What %d, kind %d) = %t, want %t", c.w, k, got, is)
			}
		}
	}
}

// P14.3: all numbers of What with all numbers of kinds; nothing else of what is asked matters.
func TestFits(t *testing.T) {
	kind := kindOf()
	for n := range 256 {
		for k := range 256 {
			for _, a := range []api.Ask{{}, {H: 1, V: 2, M: 3, Wait: 4}, {H: most32, V: most32, M: most32, Wait: -1}} {
				a.What = api.What(n)
				is := k != 0 && kind[a.What] == api.Kind(k)
				if got := Fits(a, api.Kind(k)); got != is {
					t.Errorf("Fits(%+v, %d) = %t, want %t", a, k, got, is)
				}
			}
		}
	}
}

// P14.3: what is asked of each kind stands apart from what is asked of the next one: what is put behind a piece leaves the others as they are.
func TestKindsStandApart(t *testing.T) {
	asked := askedOfKinds()
	for k, piece := range asked {
		if len(piece) != cap(piece) {
			t.Errorf("what is asked of kind %d has room for %d more", k, cap(piece)-len(piece))
		}
		_ = append(piece, api.WhEnd)
	}
	many := 0
	for k, piece := range asked {
		many += len(piece)
		for _, w := range piece {
			if kindOf()[w] != api.Kind(k) {
				t.Errorf("%d is asked of kind %d", w, k)
			}
		}
	}
	if want := len(kindOf()); many != want {
		t.Errorf("%d are asked of things, want %d", many, want)
	}
}

// P14.4: tasks of each state, held and not, with ordinary numbers.
func TestText(t *testing.T) {
	text(t, readyTask(), "771 ready - 4 9 - 12 8 77")
	text(t, faultTask(), "772 fault - 3 8 - 13 15 78")
	text(t, waitingTask(), "773 waits - 5 7 3 514 31 32 41 14 10 79")
	text(t, endlessTask(), "774 waits - 5 7 3 514 31 32 -1 14 10 79")
	isHeld := func(x *api.Task) { x.Held = true }
	text(t, with(readyTask(), isHeld), "771 ready held 4 9 - 12 8 77")
	text(t, with(faultTask(), isHeld), "772 fault held 3 8 - 13 15 78")
	text(t, with(waitingTask(), isHeld), "773 waits held 5 7 3 514 31 32 41 14 10 79")
	text(t, with(endlessTask(), isHeld), "774 waits held 5 7 3 514 31 32 -1 14 10 79")
}

// P14.4: the least and the greatest numbers; those of 32 bits have no sign.
func TestTextEdges(t *testing.T) {
	least := api.Task{Handle: 1, State: api.StReady}
	text(t, least, "1 ready - 0 0 - 0 0 0")
	text(t, with(least, func(x *api.Task) { x.State = api.StFault }), "1 fault - 0 0 - 0 0 0")
	text(t, with(least, func(x *api.Task) {
		x.State, x.Left = api.StWaits, 1
		x.Waits = api.Ask{What: api.WhSleep, Wait: 1}
	}), "1 waits - 0 0 2 0 0 0 1 0 0 0")
	most := api.Task{Handle: most32, State: api.StFault, Held: true, Base: 31, Rank: 31, Answers: math.MaxInt64, Last: 15, Value: most32}
	text(t, most, "4294967295 fault held 31 31 - 9223372036854775807 15 4294967295")
	text(t, with(most, func(x *api.Task) { x.State = api.StReady }), "4294967295 ready held 31 31 - 9223372036854775807 15 4294967295")
	most.State, most.Left = api.StWaits, 1<<30
	most.Waits = api.Ask{What: api.WhAlloc, H: most32, V: most32, M: most32, Wait: 1 << 30}
	text(t, most, "4294967295 waits held 31 31 14 4294967295 4294967295 4294967295 1073741824 9223372036854775807 15 4294967295")
	most.Waits.Wait, most.Left = -1, math.MinInt64
	text(t, most, "4294967295 waits held 31 31 14 4294967295 4294967295 4294967295 -9223372036854775808 9223372036854775807 15 4294967295")
	most.Waits.Wait, most.Left = math.MinInt64, -1
	text(t, most, "4294967295 waits held 31 31 14 4294967295 4294967295 4294967295 -1 9223372036854775807 15 4294967295")
}

// P14.4: 32 bits with the highest one set, at each place where they may stand.
func TestTextHighBit(t *testing.T) {
	x := waitingTask()
	x.Handle, x.Value = 1<<31, 1<<31+1
	x.Waits.H, x.Waits.V, x.Waits.M = 1<<31+2, 1<<31+3, 1<<31+4
	text(t, x, "2147483648 waits - 5 7 3 2147483650 2147483651 2147483652 41 14 10 2147483649")
}

// P14.4: each What that may wait, by its number.
func TestTextWhat(t *testing.T) {
	numbers := map[api.What]string{
		api.WhSleep: "2", api.WhTake: "3", api.WhLock: "5", api.WhPut: "7",
		api.WhPush: "8", api.WhGet: "9", api.WhAwait: "11", api.WhAlloc: "14",
	}
	for w, number := range numbers {
		x := waitingTask()
		x.Waits.What = w
		text(t, x, "773 waits - 5 7 "+number+" 514 31 32 41 14 10 79")
	}
}

// P14.4: each part at its place, with one blank between: a change of one part changes what stands there alone.
func TestTextPlaces(t *testing.T) {
	short := []string{"771", "ready", "-", "4", "9", "-", "12", "8", "77"}
	long := []string{"773", "waits", "-", "5", "7", "3", "514", "31", "32", "41", "14", "10", "79"}
	cases := []struct {
		inShort, inLong int // places; below 0: there is none
		part            string
		change          func(*api.Task)
	}{
		{0, 0, "900", func(x *api.Task) { x.Handle = 900 }},
		{1, -1, "fault", func(x *api.Task) { x.State = api.StFault }},
		{2, 2, "held", func(x *api.Task) { x.Held = true }},
		{3, 3, "1", func(x *api.Task) { x.Base = 1 }},
		{4, 4, "30", func(x *api.Task) { x.Rank = 30 }},
		{-1, 5, "14", func(x *api.Task) { x.Waits.What = api.WhAlloc }},
		{-1, 6, "901", func(x *api.Task) { x.Waits.H = 901 }},
		{-1, 7, "902", func(x *api.Task) { x.Waits.V = 902 }},
		{-1, 8, "903", func(x *api.Task) { x.Waits.M = 903 }},
		{-1, 9, "1", func(x *api.Task) { x.Left = 1 }},
		{6, 10, "904", func(x *api.Task) { x.Answers = 904 }},
		{7, 11, "0", func(x *api.Task) { x.Last = api.OK }},
		{8, 12, "905", func(x *api.Task) { x.Value = 905 }},
	}
	for _, c := range cases {
		if c.inShort >= 0 {
			text(t, with(readyTask(), c.change), putAt(short, c.inShort, c.part))
		}
		if c.inLong >= 0 {
			text(t, with(waitingTask(), c.change), putAt(long, c.inLong, c.part))
		}
	}
}

// putAt answers a text of these parts, with another one at a place.
func putAt(parts []string, place int, part string) string {
	told := append([]string{}, parts...)
	told[place] = part
	return strings.Join(told, " ")
}

// P14.4: tasks that may not be seen so, for each part that may spoil them, have no text.
func TestTextEmpty(t *testing.T) {
	spoils := []func(*api.Task){
		func(x *api.Task) { x.Handle = 0 },
		func(x *api.Task) { x.State = api.StNone },
		func(x *api.Task) { x.State = api.StFault + 1 },
		func(x *api.Task) { x.State = 255 },
		func(x *api.Task) { x.Base = -1 },
		func(x *api.Task) { x.Base = x.Rank + 1 },
		func(x *api.Task) { x.Base, x.Rank = 32, 32 },
		func(x *api.Task) { x.Rank = 32 },
		func(x *api.Task) { x.Rank = x.Base - 1 },
		func(x *api.Task) { x.Answers = -1 },
		func(x *api.Task) { x.Last = -1 },
		func(x *api.Task) { x.Last = 16 },
		func(x *api.Task) { x.Waits.What = api.WhYield },
		func(x *api.Task) { x.Waits.Wait = 1<<30 + 1 },
		func(x *api.Task) { x.Left = math.MaxInt64 },
		func(x *api.Task) { x.Waits.Wait, x.Left = 5, 6 },
		func(x *api.Task) { x.Waits.Wait, x.Left = 5, -1 },
		func(x *api.Task) { x.Waits.Wait, x.Left = -5, 1 },
	}
	for _, x := range allTasks() {
		for _, spoil := range spoils {
			text(t, with(x, spoil), "")
		}
	}
	text(t, api.Task{}, "")
}

// variants of a task that may be seen so, each of which differs from it in one part alone.
func variants(x api.Task) []api.Task {
	told := []api.Task{
		with(x, func(x *api.Task) { x.Handle++ }),
		with(x, func(x *api.Task) { x.Held = !x.Held }),
		with(x, func(x *api.Task) { x.Base-- }),
		with(x, func(x *api.Task) { x.Rank++ }),
		with(x, func(x *api.Task) { x.Answers++ }),
		with(x, func(x *api.Task) { x.Last-- }),
		with(x, func(x *api.Task) { x.Value++ }),
	}
	switch x.State {
	case api.StReady:
		return append(told, with(x, func(x *api.Task) { x.State = api.StFault }))
	case api.StFault:
		return append(told, with(x, func(x *api.Task) { x.State = api.StReady }))
	}
	for w := range waitsOf() {
		if w != x.Waits.What {
			told = append(told, with(x, func(x *api.Task) { x.Waits.What = w }))
		}
	}
	return append(told,
		with(x, func(x *api.Task) { x.Waits.H++ }),
		with(x, func(x *api.Task) { x.Waits.V++ }),
		with(x, func(x *api.Task) { x.Waits.M++ }),
		with(x, func(x *api.Task) { x.Left-- }),
	)
}

// P14.5: tasks that differ in one part, or in two, have unlike texts.
func TestUnlikeTexts(t *testing.T) {
	for _, x := range allTasks() {
		seen := map[string]api.Task{Text(x): x}
		for _, y := range variants(x) {
			check(t, y, true)
			if before, ok := seen[Text(y)]; ok {
				t.Errorf("%+v and %+v have one text, %q", before, y, Text(y))
			}
			seen[Text(y)] = y
		}
	}
}

// P14.5: numbers of which the digits run into each other, were there no blank between.
func TestUnlikeDigits(t *testing.T) {
	numbers := []uint32{0, 1, 10, 11, 100, 101, 110, 111, 1111}
	seen := map[string]api.Task{}
	x := waitingTask()
	for _, x.Waits.H = range numbers {
		for _, x.Waits.V = range numbers {
			for _, x.Waits.M = range numbers {
				for _, x.Value = range numbers {
					if before, ok := seen[Text(x)]; ok {
						t.Fatalf("%+v and %+v have one text, %q", before, x, Text(x))
					}
					seen[Text(x)] = x
				}
			}
		}
	}
}

// P14.5: Wait of Waits alone makes no difference.
func TestLikeTexts(t *testing.T) {
	x, y := waitingTask(), endlessTask()
	for _, wait := range []int64{41, 42, 59, 61, 1<<30 - 1, 1 << 30} {
		text(t, with(x, func(x *api.Task) { x.Waits.Wait = wait }), Text(x))
	}
	for _, wait := range []int64{-2, -60, -1 << 30, -round, math.MinInt64} {
		text(t, with(y, func(y *api.Task) { y.Waits.Wait = wait }), Text(y))
	}
}

// readNumber of a text's part, which must be written as digits alone, with a hyphen ahead if it is below 0.
func readNumber(t *testing.T, part string) int64 {
	t.Helper()
	n, err := strconv.ParseInt(part, 10, 64)
	if err != nil || strconv.FormatInt(n, 10) != part {
		t.Fatalf("%q is no number", part)
	}
	return n
}

// readBack a task of its text: all but Wait of Waits.
func readBack(t *testing.T, s string) api.Task {
	t.Helper()
	parts := strings.Split(s, " ")
	take := func() string {
		if len(parts) == 0 {
			t.Fatalf("%q is too short", s)
		}
		part := parts[0]
		parts = parts[1:]
		return part
	}
	var x api.Task
	x.Handle = uint32(readNumber(t, take()))
	x.State = map[string]api.State{"ready": api.StReady, "waits": api.StWaits, "fault": api.StFault}[take()]
	x.Held = map[string]bool{"held": true, "-": false}[take()]
	x.Base, x.Rank = int(readNumber(t, take())), int(readNumber(t, take()))
	if x.State == api.StWaits {
		x.Waits.What, x.Waits.H = api.What(readNumber(t, take())), uint32(readNumber(t, take()))
		x.Waits.V, x.Waits.M = uint32(readNumber(t, take())), uint32(readNumber(t, take()))
		x.Left = readNumber(t, take())
	} else if part := take(); part != "-" {
		t.Fatalf("%q waits for %q", s, part)
	}
	x.Answers, x.Last, x.Value = int(readNumber(t, take())), api.Errno(readNumber(t, take())), uint32(readNumber(t, take()))
	if len(parts) != 0 {
		t.Fatalf("%q is too long", s)
	}
	return x
}

// P14.5: a text tells the whole task but for Wait of Waits.
func TestTextTellsAll(t *testing.T) {
	d := &dice{n: 41}
	for range 20000 {
		x := rightTask(d)
		if wrong(x) != "" {
			t.Fatalf("%+v: its %s may not be", x, wrong(x))
		}
		got, want := readBack(t, Text(x)), x
		want.Waits.Wait = 0
		if got != want {
			t.Fatalf("Text(%+v) = %q tells %+v", x, Text(x), got)
		}
	}
}

// rightTask answers one that may be seen so.
func rightTask(d *dice) api.Task {
	numbers := []uint32{0, 1, 9, 10, 255, 256, 1<<31 - 1, 1 << 31, most32 - 1, most32, next(d.n)}
	x := api.Task{
		Handle: one(d, numbers[1:10]), State: one(d, []api.State{api.StReady, api.StWaits, api.StWaits, api.StFault}),
		Held: d.below(2) == 1, Base: d.below(32),
		Answers: one(d, []int{0, 1, 10, d.below(1 << 20), math.MaxInt}), Last: api.Errno(d.below(16)), Value: one(d, numbers),
	}
	x.Rank = x.Base + d.below(32-x.Base)
	if x.State != api.StWaits {
		return x
	}
	whats := []api.What{api.WhSleep, api.WhTake, api.WhLock, api.WhPut, api.WhPush, api.WhGet, api.WhAwait, api.WhAlloc}
	x.Waits = api.Ask{What: one(d, whats), H: one(d, numbers), V: one(d, numbers), M: one(d, numbers)}
	x.Waits.Wait = one(d, []int64{-1, -7, math.MinInt64, 1, 2, 1 << 30, 1 + int64(d.below(1000))})
	if x.Waits.Wait < 0 {
		x.Left = one(d, []int64{-1, -2, math.MinInt64, -1 - int64(d.below(1000))})
	} else {
		x.Left = one(d, []int64{1, x.Waits.Wait, 1 + int64(d.below(int(x.Waits.Wait)))})
	}
	return x
}

// spoil one part of a task by a number that may be at or beyond a bound; not each of them does harm.
func spoil(d *dice, x *api.Task) {
	ints := []int{math.MinInt, -round, -1, 0, 1, 15, 16, 30, 31, 32, round, math.MaxInt, x.Base - 1, x.Rank + 1}
	ticks := []int64{math.MinInt64, -round, -1, 0, 1, 1 << 30, 1<<30 + 1, round, math.MaxInt64, x.Left, x.Left - 1, x.Waits.Wait, x.Waits.Wait + 1, -x.Left}
	switch d.below(12) {
	case 0:
		x.Handle = uint32(d.below(2))
	case 1:
		x.State = one(d, []api.State{0, 1, 2, 3, 4, 255})
	case 2:
		x.Base = one(d, ints)
	case 3:
		x.Rank = one(d, ints)
	case 4:
		x.Answers = one(d, ints)
	case 5:
		x.Last = api.Errno(one(d, ints))
	case 6:
		x.Waits.What = api.What(d.below(23))
	case 7:
		x.Waits.H = uint32(d.below(2))
	case 8:
		x.Waits.V = uint32(d.below(2))
	case 9:
		x.Waits.M = uint32(d.below(2))
	case 10:
		x.Waits.Wait = one(d, ticks)
	case 11:
		x.Left = one(d, ticks)
	}
}

// P14.1, P14.4: long runs of tasks, right ones and ones that are spoilt in up to three parts, against a plain reading of the chapter.
func TestLongRuns(t *testing.T) {
	d := &dice{n: 14}
	counts := map[string]int{}
	for range 60000 {
		x := rightTask(d)
		for range d.below(4) {
			spoil(d, &x)
		}
		counts[wrong(x)]++
		agrees(t, x)
	}
	for _, part := range []string{"", "Handle", "State", "Base", "Rank", "Answers", "Last", "What", "Wait", "Left", "Left for ever", "Waits"} {
		if counts[part] < 100 {
			t.Errorf("%d tasks alone were wrong in %q", counts[part], part)
		}
	}
}

// P14.2, P14.3: long runs of what is asked, against a plain reading of the chapter.
func TestLongRunsOfAsks(t *testing.T) {
	d := &dice{n: 23}
	may, kind := waitsOf(), kindOf()
	for range 60000 {
		a := api.Ask{What: api.What(d.below(26)), H: next(d.n), V: uint32(d.below(9)), M: uint32(d.below(4)), Wait: int64(d.below(5) - 2)}
		k := api.Kind(d.below(10))
		for range 2 {
			if got := Blocks(a); got != (may[a.What] && a.Wait != 0) {
				t.Fatalf("Blocks(%+v) = %t", a, got)
			}
			if got := Fits(a, k); got != (k != api.KiNone && kind[a.What] == k) {
				t.Fatalf("Fits(%+v, %d) = %t", a, k, got)
			}
		}
	}
}

// P14.1 to P14.3 together: what a task is seen to wait for is what blocks; each that is asked of things is asked of one kind alone; and all that block, but to sleep, are.
func TestCallsTogether(t *testing.T) {
	x := waitingTask()
	for n := range 256 {
		x.Waits.What = api.What(n)
		fits := 0
		for k := range 256 {
			if Fits(x.Waits, api.Kind(k)) {
				fits++
			}
		}
		if Check(x) != Blocks(x.Waits) {
			t.Errorf("Check of one that waits for %d = %t, Blocks = %t", n, Check(x), Blocks(x.Waits))
		}
		if fits > 1 || Blocks(x.Waits) && x.Waits.What != api.WhSleep && fits == 0 {
			t.Errorf("%d is asked of %d kinds", n, fits)
		}
	}
}

// The chapter's examples.
func TestExamples(t *testing.T) {
	text(t, api.Task{Handle: 256, State: api.StReady, Base: 3, Rank: 5, Answers: 2, Last: 8, Value: 0}, "256 ready - 3 5 - 2 8 0")
	cases := []struct {
		a  api.Ask
		is bool
	}{
		{api.Ask{What: api.WhTake, Wait: 0}, false},
		{api.Ask{What: api.WhTake, Wait: -1}, true},
		{api.Ask{What: api.WhGive, Wait: 5}, false},
	}
	for _, c := range cases {
		if got := Blocks(c.a); got != c.is {
			t.Errorf("Blocks(%+v) = %t, want %t", c.a, got, c.is)
		}
	}
}
