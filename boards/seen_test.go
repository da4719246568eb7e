package boards

import (
	"reflect"
	"testing"

	"timekeeper/api"
)

// view is all that is seen of a board's kernel; to see it hands nothing on.
type view struct {
	now, runs uint32
	tasks     []api.Task
	things    []api.Thing
	ready     [api.MaxRank + 1][]uint32
}

func viewOf(b *Board) view {
	k := b.Kernel()
	v := view{now: k.Now(), runs: k.Runs(), tasks: k.Tasks(), things: k.Things()}
	for rank := range v.ready {
		v.ready[rank] = k.Ready(rank)
	}
	return v
}

func isSeen(t *testing.T, b *Board, want view) {
	t.Helper()
	if got := viewOf(b); !reflect.DeepEqual(got, want) {
		t.Fatalf("it is seen as\n%+v, want\n%+v", got, want)
	}
}

// inside is all that a core is seen to have, or why not.
type inside struct {
	regs    [8]uint32
	bytes   string
	console string
	e       api.Errno
}

// inside of the cores of some tasks; to see them hands on what they were answered.
func insideOf(t *testing.T, b *Board, handles ...uint32) []inside {
	t.Helper()
	var l []inside
	for _, h := range handles {
		x := inside{}
		var other, third api.Errno
		x.regs, x.e = b.Regs(h)
		bytes, other := b.Bytes(h)
		x.console, third = b.Console(h)
		x.bytes = string(bytes)
		if x.e != other || x.e != third {
			t.Fatalf("of %d: the errors %d, %d, %d", h, x.e, other, third)
		}
		l = append(l, x)
	}
	return l
}

// whole is all that is seen of a board, its cores, too.
type whole struct {
	view  view
	cores []inside
}

func wholeOf(t *testing.T, b *Board, handles ...uint32) whole {
	t.Helper()
	return whole{viewOf(b), insideOf(t, b, handles...)}
}

func isWhole(t *testing.T, b *Board, want whole, handles ...uint32) {
	t.Helper()
	if got := wholeOf(t, b, handles...); !reflect.DeepEqual(got, want) {
		t.Fatalf("it is seen as\n%+v, want\n%+v", got, want)
	}
}
