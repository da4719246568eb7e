package boards

import (
	"math"
	"slices"
	"strings"
	"testing"

	"timekeeper/api"
	"timekeeper/images"
	"timekeeper/tasks"
)

// begins a board whose first tick is 0.
func begins(t *testing.T, slice int) *Board {
	t.Helper()
	b, e := New(api.Setup{Slice: slice})
	if e != api.OK || b == nil {
		t.Fatalf("New: %v, error %d", b, e)
	}
	return b
}

// written is an image of lines.
func written(t *testing.T, lines ...string) api.Image {
	t.Helper()
	m, line, e := images.Parse(strings.Join(lines, "\n"))
	if e != api.OK {
		t.Fatalf("line %d (%q) of an image: error %d", line, lines[line], e)
	}
	return m
}

// loads a task of an image of lines.
func loads(t *testing.T, b *Board, rank int, lines ...string) uint32 {
	t.Helper()
	h, e := b.Load(written(t, lines...), rank)
	if e != api.OK {
		t.Fatalf("Load(%q, %d): error %d", lines, rank, e)
	}
	return h
}

// bare is a task without a core.
func bare(t *testing.T, b *Board, rank int) uint32 {
	t.Helper()
	h, e := b.Kernel().Task(rank)
	if e != api.OK {
		t.Fatalf("Task(%d): error %d", rank, e)
	}
	return h
}

func makes(t *testing.T, b *Board, kind api.Kind, x, y uint32) uint32 {
	t.Helper()
	h, e := b.Kernel().Thing(api.Make{Kind: kind, A: x, B: y})
	if e != api.OK {
		t.Fatalf("Thing(%d, %d, %d): error %d", kind, x, y, e)
	}
	return h
}

// does is whether Run does so many instructions of n.
func does(t *testing.T, b *Board, n, want int) {
	t.Helper()
	if got, e := b.Run(n); got != want || e != api.OK {
		t.Fatalf("Run(%d) = %d, error %d, want %d", n, got, e, want)
	}
}

func is(t *testing.T, call string, got, want api.Errno) {
	t.Helper()
	if got != want {
		t.Fatalf("%s: error %d, want %d", call, got, want)
	}
}

// runs is whether the task of that handle does.
func runs(t *testing.T, b *Board, want uint32) {
	t.Helper()
	if h := b.Kernel().Runs(); h != want {
		t.Fatalf("Runs() = %d, want %d", h, want)
	}
}

// holds is whether these are the first registers of a task, all others being 0.
func holds(t *testing.T, b *Board, h uint32, want ...uint32) {
	t.Helper()
	var all [8]uint32
	copy(all[:], want)
	if got, e := b.Regs(h); got != all || e != api.OK {
		t.Fatalf("Regs(%d) = %v, error %d, want %v", h, got, e, all)
	}
}

// begin is whether the first registers of a task begin so.
func begin(t *testing.T, b *Board, h uint32, want ...uint32) {
	t.Helper()
	if got, e := b.Regs(h); !slices.Equal(got[:len(want)], want) || e != api.OK {
		t.Fatalf("Regs(%d) = %v, error %d, want %v at the beginning", h, got, e, want)
	}
}

func says(t *testing.T, b *Board, h uint32, want string) {
	t.Helper()
	if got, e := b.Console(h); got != want || e != api.OK {
		t.Fatalf("Console(%d) = %q, error %d, want %q", h, got, e, want)
	}
}

func has(t *testing.T, b *Board, h uint32, want ...byte) {
	t.Helper()
	if got, e := b.Bytes(h); !slices.Equal(got, want) || e != api.OK {
		t.Fatalf("Bytes(%d) = %v, error %d, want %v", h, got, e, want)
	}
}

// looks is whether all tasks are seen so, by their places.
func looks(t *testing.T, b *Board, want ...string) {
	t.Helper()
	var got []string
	for _, x := range b.Kernel().Tasks() {
		got = append(got, tasks.Text(x))
	}
	if !slices.Equal(got, want) {
		t.Fatalf("the tasks are\n%q, want\n%q", got, want)
	}
}

// outside is what the task that runs is made to ask from without; that it is answered, or not, as is wanted.
func outside(t *testing.T, b *Board, a api.Ask, answered bool, want api.Errno) {
	t.Helper()
	if got, e := b.Kernel().Ask(a); got != answered || e != want {
		t.Fatalf("Ask(%+v) = %t, error %d, want %t, error %d", a, got, e, answered, want)
	}
}

func thingOf(t *testing.T, b *Board, h uint32) api.Thing {
	t.Helper()
	for _, x := range b.Kernel().Things() {
		if x.Handle == h {
			return x
		}
	}
	t.Fatalf("thing %d is not there", h)
	return api.Thing{}
}

// counts is whether a semaphore has so many, flags are these.
func counts(t *testing.T, b *Board, h, want uint32) {
	t.Helper()
	if x := thingOf(t, b, h); x.Count != want {
		t.Fatalf("of thing %d there are %d, want %d", h, x.Count, want)
	}
}

func ticks(t *testing.T, b *Board, n int) {
	t.Helper()
	for range n {
		is(t, "Tick", b.Tick(), api.OK)
	}
}

// P22.1: a setup that kernel.New refuses is no board's; each other is, with its first tick.
func TestNew(t *testing.T) {
	for _, slice := range []int{0, -1, api.MaxSlice + 1, math.MinInt, math.MaxInt, 1 << 32} {
		for _, now := range []uint32{0, 1, 1<<32 - 1} {
			if b, e := New(api.Setup{Slice: slice, Now: now}); b != nil || e != api.ErrArg {
				t.Errorf("New(%d, %d) = %v, error %d", slice, now, b, e)
			}
		}
	}
	for _, slice := range []int{1, 2, api.MaxSlice - 1, api.MaxSlice} {
		for _, now := range []uint32{0, 7, 1<<32 - 1} {
			b, e := New(api.Setup{Slice: slice, Now: now})
			if e != api.OK || b == nil {
				t.Fatalf("New(%d, %d): error %d", slice, now, e)
			}
			if k := b.Kernel(); k.Now() != now || k.Runs() != 0 || len(k.Tasks()) != 0 || len(k.Things()) != 0 {
				t.Errorf("New(%d, %d) is not without tasks and things, at its tick", slice, now)
			}
			does(t, b, api.MaxRun, 0)
		}
	}
}

// P22.1: the slice is the setup's: so many ticks a task runs while another one of its rank may.
func TestNewSlice(t *testing.T) {
	for _, slice := range []int{1, 3, api.MaxSlice} {
		b := begins(t, slice)
		loads(t, b, 4, "go 0")
		loads(t, b, 4, "go 0")
		for range 3 {
			for _, h := range []uint32{256, 257} {
				runs(t, b, h)
				ticks(t, b, slice-1)
				runs(t, b, h)
				ticks(t, b, 1)
			}
		}
	}
}

// P22.2: a task with a core: ready, of that rank, all registers 0, its region the image's, an empty console.
func TestLoad(t *testing.T) {
	b := begins(t, 2)
	h := loads(t, b, 3, "size 3", "data 0102", "set r1 65", "tell r1")
	if h != 256 {
		t.Fatalf("Load: %d", h)
	}
	looks(t, b, "256 ready - 3 3 - 0 0 0")
	holds(t, b, h)
	has(t, b, h, 1, 2, 0)
	says(t, b, h, "")
	low, high := loads(t, b, 0, "nop"), loads(t, b, api.MaxRank, "nop")
	looks(t, b, "256 ready - 3 3 - 0 0 0", "257 ready - 0 0 - 0 0 0", "258 ready - 31 31 - 0 0 0")
	has(t, b, low)
	runs(t, b, high)
	does(t, b, 1, 1)
	does(t, b, 2, 2) // the fault of the high one, then the first one's
	holds(t, b, h, 0, 65)
}

// P22.2: an image that may not be, each for its own reason.
func TestLoadOfNoImage(t *testing.T) {
	b := begins(t, 2)
	for name, m := range wrongImages() {
		for _, rank := range []int{3, 0, api.MaxRank, -1, api.MaxRank + 1, math.MinInt, math.MaxInt} {
			if h, e := b.Load(m, rank); h != 0 || e != api.ErrArg {
				t.Errorf("Load(%s, %d) = %d, error %d", name, rank, h, e)
			}
		}
	}
	looks(t, b)
	if h := loads(t, b, 3); h != 256 { // none of them took a handle
		t.Errorf("Load: %d", h)
	}
}

func wrongImages() map[string]api.Image {
	return map[string]api.Image{
		"a size below 0":          {Size: -1},
		"the least size":          {Size: math.MinInt},
		"a size above the limit":  {Size: api.MaxRegion + 1},
		"the greatest size":       {Size: math.MaxInt},
		"data and no size":        {Data: []byte{1}},
		"more data than the size": {Size: 3, Data: make([]byte, 4)},
		"too many instructions":   {Code: make([]api.Instr, api.MaxCode+1)},
		"no such instruction":     {Code: []api.Instr{{Op: api.OpEnd + 1}}},
		"a field that is not 0":   {Code: []api.Instr{{}, {Op: api.OpNop, C: 1}}},
		"no such register":        {Code: []api.Instr{{Op: api.OpMove, A: 8}}},
		"nothing that is asked":   {Code: []api.Instr{{Op: api.OpAsk}}},
	}
}

// P22.2: images at the limits may be.
func TestLoadAtTheLimits(t *testing.T) {
	for _, m := range []api.Image{
		{},
		{Size: api.MaxRegion},
		{Size: api.MaxRegion, Data: make([]byte, api.MaxRegion)},
		{Code: make([]api.Instr, api.MaxCode)},
		{Size: 1, Data: []byte{255}, Code: []api.Instr{{Op: api.OpEnd}}},
	} {
		b := begins(t, 1)
		h, e := b.Load(m, 1)
		if h != 256 || e != api.OK {
			t.Fatalf("Load = %d, error %d", h, e)
		}
		has(t, b, h, append(slices.Clone(m.Data), make([]byte, m.Size-len(m.Data))...)...)
		does(t, b, len(m.Code), len(m.Code))
	}
}

// P22.2: ranks that may not be, and more tasks than there may be; which comes first, where two would.
func TestLoadRefusals(t *testing.T) {
	b := begins(t, 2)
	good, wrong := written(t, "nop"), api.Image{Size: -1}
	refused := func(m api.Image, rank int, want api.Errno) {
		t.Helper()
		if h, e := b.Load(m, rank); h != 0 || e != want {
			t.Fatalf("Load(%v, %d) = %d, error %d, want %d", m, rank, h, e, want)
		}
	}
	for _, rank := range []int{-1, api.MaxRank + 1, math.MinInt, math.MaxInt, 1 << 32} {
		refused(good, rank, api.ErrRange)
		refused(wrong, rank, api.ErrArg)
	}
	for i := range api.MaxTasks {
		refused(good, -1, api.ErrRange)
		if i%3 == 1 { // those that are bare count, too
			bare(t, b, i)
		} else {
			loads(t, b, i, "nop")
		}
	}
	for range 3 {
		refused(good, 0, api.ErrMany)
		refused(good, api.MaxRank, api.ErrMany)
		refused(good, -1, api.ErrRange)
		refused(good, api.MaxRank+1, api.ErrRange)
		refused(wrong, 5, api.ErrArg)
		refused(wrong, -1, api.ErrArg)
	}
	is(t, "End", b.Kernel().End(259), api.OK)
	if h := loads(t, b, 3, "nop"); h != 515 {
		t.Fatalf("Load: %d", h)
	}
	refused(good, 3, api.ErrMany)
}

// P22.2: one of the greatest rank that comes runs at once; one of a rank that is there is the last one of it.
func TestLoadJoins(t *testing.T) {
	b := begins(t, 2)
	first := loads(t, b, 3, "go 0")
	loads(t, b, 3, "go 0")
	runs(t, b, first)
	high := loads(t, b, 4, "end")
	runs(t, b, high)
	does(t, b, 1, 1)
	runs(t, b, first)
	third := loads(t, b, 3, "go 0")
	if got := b.Kernel().Ready(3); !slices.Equal(got, []uint32{256, 257, third}) {
		t.Fatalf("Ready(3) = %v", got)
	}
}

// P22.2, P22.6: a task of a handle whose place another one had has a core of its own, however many came and went.
func TestLoadAgain(t *testing.T) {
	b := begins(t, 2)
	for i := range 3 * api.MaxTasks {
		old := loads(t, b, 3, "size 1", "data 07", "set r1 65", "tell r1", "end")
		does(t, b, 9, 3)
		h := loads(t, b, 3, "size 1", "nop")
		if h != old+256 || h != uint32(256*(2*i+2)) {
			t.Fatalf("the handles %d and %d", old, h)
		}
		holds(t, b, h)
		says(t, b, h, "")
		has(t, b, h, 0)
		if _, e := b.Regs(old); e != api.ErrStale {
			t.Fatalf("Regs(%d): error %d", old, e)
		}
		is(t, "End", b.Kernel().End(h), api.OK)
	}
}

// P22.2: of tasks that are no more, no more cores are kept than there may be tasks, and of those that are there all.
func TestCoresGo(t *testing.T) {
	b := begins(t, 2)
	stays := loads(t, b, 1, "set r1 65", "tell r1", "go 2")
	does(t, b, 2, 2)
	for range 100 {
		var l []uint32
		for range api.MaxTasks - 1 {
			l = append(l, loads(t, b, 3, "size 4096"))
		}
		for _, h := range l {
			is(t, "End", b.Kernel().End(h), api.OK)
		}
	}
	if len(b.cores) > api.MaxTasks {
		t.Errorf("%d cores are kept", len(b.cores))
	}
	says(t, b, stays, "A")
	does(t, b, 9, 9)
}

// P22.5: the board's kernel is one, and what is asked of it there is as asked by the board.
func TestKernel(t *testing.T) {
	b := begins(t, 2)
	k := b.Kernel()
	if k == nil || k != b.Kernel() {
		t.Fatal("Kernel() is not one")
	}
	s := makes(t, b, api.KiCount, 0, 9)
	h := loads(t, b, 3, "set r0 256", "set r3 9", "ask 3", "go 0")
	low := loads(t, b, 1, "go 0")
	does(t, b, 3, 3)
	runs(t, b, low)
	is(t, "Tick", k.Tick(), api.OK)
	looks(t, b, "256 waits - 3 3 3 256 0 0 8 0 0 0", "257 ready - 1 1 - 0 0 0")
	is(t, "Tick", b.Tick(), api.OK)
	looks(t, b, "256 waits - 3 3 3 256 0 0 7 0 0 0", "257 ready - 1 1 - 0 0 0")
	is(t, "Signal", k.Signal(api.Bind{H: s}), api.OK)
	runs(t, b, h)
	holds(t, b, h, 0, 0, 0, 9)
	if k.Now() != 2 || k != b.Kernel() {
		t.Errorf("Now() = %d", k.Now())
	}
	is(t, "End", k.End(h), api.OK)
	does(t, b, 5, 5)
	is(t, "Hold", k.Hold(low), api.OK)
	does(t, b, 5, 0)
	is(t, "Free", k.Free(low), api.OK)
	does(t, b, 5, 5)
}

// The examples of the chapter.
func TestExamples(t *testing.T) {
	b := begins(t, 2)
	h := loads(t, b, 3, "set r1 65", "tell r1", "go 1")
	if h != 256 {
		t.Errorf("Load(I, 3) = %d", h)
	}
	does(t, b, 5, 5)
	says(t, b, h, "AA")
	if h := loads(t, b, 4); h != 257 {
		t.Errorf("Load(nothing to run, 4) = %d", h)
	}
	does(t, b, 5, 5)
	looks(t, b, "256 ready - 3 3 - 0 0 0", "257 fault - 4 4 - 0 0 0")
	says(t, b, h, "AAAA") // a fault, then go, tell, go, tell
}
