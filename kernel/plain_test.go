package kernel

import (
	"cmp"
	"fmt"
	"reflect"
	"slices"
	"testing"

	"timekeeper/api"
	"timekeeper/tasks"
)

// This file holds a plain reading of the chapter, and of those that it stands on: no queue is kept at all. By turns, which are numbers that rise, it tells who joined, began to wait, or was put among others, ahead of whom.

type plainTask struct {
	seen                 api.Task // Left counts down here
	place                int
	ran                  int
	joined, began, stood int // turns
	thing                *plainThing
}

type plainThing struct {
	handle  uint32
	place   int
	made    api.Make
	count   uint32 // of a semaphore; the flags
	owner   uint32
	row     []uint32
	owners  []uint32
	left    int64
	each    int64
	started int // a turn
}

type plainNames struct {
	generations []uint32
	taken       []bool
}

type plain struct {
	slice      int
	now        uint32
	turns      int
	taskNames  plainNames
	thingNames plainNames
	tasks      [16]*plainTask
	things     [32]*plainThing
}

func plainNew(s api.Setup) *plain {
	names := func(n int) plainNames { return plainNames{make([]uint32, n), make([]bool, n)} }
	return &plain{slice: s.Slice, now: s.Now, taskNames: names(16), thingNames: names(32)}
}

func (n *plainNames) make() (uint32, int, bool) {
	for place := range n.taken {
		if !n.taken[place] {
			n.taken[place] = true
			n.generations[place]++
			return 256*n.generations[place] + uint32(place), place, true
		}
	}
	return 0, 0, false
}

func (n *plainNames) place(h uint32) (int, api.Errno) {
	place, generation := int(h%256), h/256
	if generation == 0 || place >= len(n.taken) || generation > n.generations[place] {
		return 0, api.ErrHandle
	}
	if generation < n.generations[place] || !n.taken[place] {
		return 0, api.ErrStale
	}
	return place, api.OK
}

func (p *plain) turn() int {
	p.turns++
	return p.turns
}

func (p *plain) task(h uint32) (*plainTask, api.Errno) {
	place, e := p.taskNames.place(h)
	if e != api.OK {
		return nil, e
	}
	return p.tasks[place], api.OK
}

func (p *plain) thing(h uint32) (*plainThing, api.Errno) {
	place, e := p.thingNames.place(h)
	if e != api.OK {
		return nil, e
	}
	return p.things[place], api.OK
}

func (x *plainTask) mayRun() bool { return x.seen.State == api.StReady && !x.seen.Held }

func (p *plain) join(x *plainTask) {
	if x.mayRun() {
		x.joined, x.ran = p.turn(), 0
	}
}

// row of those that may run, of a rank.
func (p *plain) row(rank int) []*plainTask {
	var those []*plainTask
	for _, x := range p.tasks {
		if x != nil && x.mayRun() && x.seen.Rank == rank {
			those = append(those, x)
		}
	}
	slices.SortFunc(those, func(x, y *plainTask) int { return cmp.Compare(x.joined, y.joined) })
	return those
}

func (p *plain) running() *plainTask {
	for rank := 31; rank >= 0; rank-- {
		if those := p.row(rank); len(those) > 0 {
			return those[0]
		}
	}
	return nil
}

// waiting are those that wait for a thing, in order.
func (p *plain) waiting(y *plainThing) []*plainTask {
	var those []*plainTask
	for _, x := range p.tasks {
		if x != nil && x.seen.State == api.StWaits && x.thing == y {
			those = append(those, x)
		}
	}
	slices.SortFunc(those, func(x, y *plainTask) int {
		return cmp.Or(cmp.Compare(y.seen.Rank, x.seen.Rank), cmp.Compare(x.stood, y.stood))
	})
	return those
}

func (p *plain) answer(x *plainTask, e api.Errno, number uint32) {
	x.seen.Answers++
	x.seen.Last, x.seen.Value = e, number
	if x.seen.State == api.StWaits {
		x.seen.State, x.seen.Waits, x.seen.Left, x.thing = api.StReady, api.Ask{}, 0, nil
		p.join(x)
	}
}

func (p *plain) serve(y *plainThing) {
	for {
		served := false
		for _, x := range p.waiting(y) {
			if number, e := y.try(x.seen.Handle, x.seen.Waits); e == api.OK {
				p.answer(x, api.OK, number)
				served = true
				break
			}
		}
		if !served {
			return
		}
	}
}

// lends is whether x waits for y, who has it.
func (p *plain) lends(x, y *plainTask) bool {
	return x != nil && y != nil && x.thing != nil && x.seen.Waits.What == api.WhLock && x.thing.owner == y.seen.Handle
}

func (p *plain) tellRanks() {
	var ranks [16]int
	for place, x := range p.tasks {
		if x != nil && x.seen.State != api.StFault {
			ranks[place] = x.seen.Base
		}
	}
	for range 16 {
		for i, x := range p.tasks {
			for j, y := range p.tasks {
				if p.lends(x, y) {
					ranks[j] = max(ranks[j], ranks[i])
				}
			}
		}
	}
	for place, x := range p.tasks {
		if x != nil && x.seen.State != api.StFault && x.seen.Rank != ranks[place] {
			x.seen.Rank = ranks[place]
			x.stood = p.turn()
			p.join(x)
		}
	}
}

func (p *plain) letGo(h uint32) {
	for _, y := range p.things {
		if y != nil && y.leave(h) {
			p.serve(y)
		}
	}
}

// What is asked of a thing, as chapter 18 tells it.

func fitting(w api.What) api.Kind {
	switch w {
	case api.WhTake, api.WhGive:
		return api.KiCount
	case api.WhLock, api.WhUnlock:
		return api.KiLock
	case api.WhPut, api.WhPush, api.WhGet, api.WhPeek:
		return api.KiRow
	case api.WhAwait, api.WhRaise, api.WhLower:
		return api.KiFlags
	case api.WhAlloc, api.WhFree:
		return api.KiPool
	case api.WhStart, api.WhStop:
		return api.KiAlarm
	}
	return api.KiNone
}

func waitable(w api.What) bool {
	switch w {
	case api.WhSleep, api.WhTake, api.WhLock, api.WhPut, api.WhPush, api.WhGet, api.WhAwait, api.WhAlloc:
		return true
	}
	return false
}

func (y *plainThing) try(who uint32, a api.Ask) (uint32, api.Errno) {
	switch a.What {
	case api.WhTake:
		if y.count == 0 {
			return 0, api.ErrState
		}
		y.count--
	case api.WhGive:
		if y.count == y.made.B {
			return 0, api.ErrFull
		}
		y.count++
	case api.WhLock:
		if y.owner == who {
			return 0, api.ErrOwner
		}
		if y.owner != 0 {
			return 0, api.ErrState
		}
		y.owner = who
	case api.WhUnlock:
		if y.owner != who {
			return 0, api.ErrOwner
		}
		y.owner = 0
	case api.WhPut, api.WhPush, api.WhGet, api.WhPeek:
		return y.tryRow(a)
	case api.WhAwait, api.WhRaise, api.WhLower:
		return y.tryFlags(a)
	case api.WhAlloc, api.WhFree:
		return y.tryPool(who, a)
	}
	return 0, api.OK
}

func (y *plainThing) tryRow(a api.Ask) (uint32, api.Errno) {
	isFull, isEmpty := len(y.row) == int(y.made.A), len(y.row) == 0
	switch a.What {
	case api.WhPut, api.WhPush:
		if isFull {
			return 0, api.ErrState
		}
		at := len(y.row)
		if a.What == api.WhPush {
			at = 0
		}
		y.row = slices.Insert(y.row, at, a.V)
		return 0, api.OK
	case api.WhGet:
		if isEmpty {
			return 0, api.ErrState
		}
		first := y.row[0]
		y.row = y.row[1:]
		return first, api.OK
	}
	if isEmpty {
		return 0, api.ErrEmpty
	}
	return y.row[0], api.OK
}

func (y *plainThing) tryFlags(a api.Ask) (uint32, api.Errno) {
	switch a.What {
	case api.WhRaise:
		y.count |= a.V
		return y.count, api.OK
	case api.WhLower:
		y.count &^= a.V
		return y.count, api.OK
	}
	met := y.count & a.V
	isEnough := met != 0
	if a.M%2 == 1 {
		isEnough = met == a.V
	}
	if !isEnough {
		return 0, api.ErrState
	}
	if a.M >= 2 {
		y.count &^= a.V
	}
	return met, api.OK
}

func (y *plainThing) tryPool(who uint32, a api.Ask) (uint32, api.Errno) {
	if a.What == api.WhAlloc {
		block := slices.Index(y.owners, 0)
		if block < 0 {
			return 0, api.ErrState
		}
		y.owners[block] = who
		return uint32(block), api.OK
	}
	if uint64(a.V) >= uint64(len(y.owners)) {
		return 0, api.ErrArg
	}
	if y.owners[a.V] != who {
		return 0, api.ErrOwner
	}
	y.owners[a.V] = 0
	return 0, api.OK
}

func (y *plainThing) leave(who uint32) bool {
	had := y.owner == who
	if had {
		y.owner = 0
	}
	for block, one := range y.owners {
		if one == who {
			y.owners[block], had = 0, true
		}
	}
	return had
}

func (y *plainThing) isFree() bool {
	return !slices.ContainsFunc(y.owners, func(who uint32) bool { return who != 0 })
}

// The calls.

func (p *plain) Task(rank int) (uint32, api.Errno) {
	if rank < 0 || rank > 31 {
		return 0, api.ErrRange
	}
	h, place, ok := p.taskNames.make()
	if !ok {
		return 0, api.ErrMany
	}
	x := &plainTask{seen: api.Task{Handle: h, State: api.StReady, Base: rank, Rank: rank}, place: place}
	p.tasks[place] = x
	p.join(x)
	p.tellRanks()
	return h, api.OK
}

func (p *plain) End(h uint32) api.Errno {
	x, e := p.task(h)
	if e != api.OK {
		return e
	}
	p.tasks[x.place], p.taskNames.taken[x.place] = nil, false
	p.letGo(h)
	p.tellRanks()
	return api.OK
}

func (p *plain) Fault(h uint32) api.Errno {
	x, e := p.task(h)
	if e != api.OK {
		return e
	}
	if x.seen.State == api.StFault {
		return api.ErrState
	}
	x.seen.State, x.seen.Waits, x.seen.Left, x.thing = api.StFault, api.Ask{}, 0, nil
	p.letGo(h)
	p.tellRanks()
	return api.OK
}

func (p *plain) Hold(h uint32) api.Errno {
	x, e := p.task(h)
	if e != api.OK {
		return e
	}
	if x.seen.Held || x.seen.State == api.StFault {
		return api.ErrState
	}
	x.seen.Held = true
	p.tellRanks()
	return api.OK
}

func (p *plain) Free(h uint32) api.Errno {
	x, e := p.task(h)
	if e != api.OK {
		return e
	}
	if !x.seen.Held {
		return api.ErrState
	}
	x.seen.Held = false
	p.join(x)
	p.tellRanks()
	return api.OK
}

func (p *plain) Rank(h uint32, rank int) api.Errno {
	x, e := p.task(h)
	if e != api.OK {
		return e
	}
	if rank < 0 || rank > 31 {
		return api.ErrRange
	}
	if x.seen.State == api.StFault {
		return api.ErrState
	}
	x.seen.Base = rank
	p.tellRanks()
	return api.OK
}

func plainMay(m api.Make) bool {
	switch m.Kind {
	case api.KiCount:
		return m.A <= m.B && m.B >= 1 && m.B <= 1073741824
	case api.KiLock:
		return m.A == 0 && m.B == 0
	case api.KiRow:
		return m.A >= 1 && m.A <= 64 && m.B == 0
	case api.KiFlags:
		return m.B == 0
	case api.KiPool:
		return m.A >= 1 && m.A <= 64 && m.B >= 1 && m.B <= 256
	case api.KiAlarm:
		return m.A != 0
	}
	return false
}

// target is a thing, if it is a semaphore or flags.
func (p *plain) target(h uint32) (*plainThing, api.Errno) {
	y, e := p.thing(h)
	if e != api.OK {
		return nil, e
	}
	if y.made.Kind != api.KiCount && y.made.Kind != api.KiFlags {
		return nil, api.ErrArg
	}
	return y, api.OK
}

func (p *plain) Thing(m api.Make) (uint32, api.Errno) {
	if !plainMay(m) {
		return 0, api.ErrArg
	}
	if m.Kind == api.KiAlarm {
		if _, e := p.target(m.A); e != api.OK {
			return 0, e
		}
	}
	h, place, ok := p.thingNames.make()
	if !ok {
		return 0, api.ErrMany
	}
	y := &plainThing{handle: h, place: place, made: m}
	if m.Kind == api.KiCount || m.Kind == api.KiFlags {
		y.count = m.A
	}
	if m.Kind == api.KiPool {
		y.owners = make([]uint32, m.A)
	}
	p.things[place] = y
	p.tellRanks()
	return h, api.OK
}

func (p *plain) Drop(h uint32) api.Errno {
	y, e := p.thing(h)
	if e != api.OK {
		return e
	}
	if !y.isFree() {
		return api.ErrBusy
	}
	p.things[y.place], p.thingNames.taken[y.place] = nil, false
	for _, x := range p.waiting(y) {
		p.answer(x, api.ErrGone, 0)
	}
	p.tellRanks()
	return api.OK
}

func (p *plain) Ask(a api.Ask) (bool, api.Errno) {
	x := p.running()
	if x == nil {
		return false, api.ErrState
	}
	if a.What < 1 || a.What > 20 {
		return false, api.ErrArg
	}
	answered, e := p.done(x, a)
	p.tellRanks()
	return answered, e
}

// done is a row of P20.6's table.
func (p *plain) done(x *plainTask, a api.Ask) (bool, api.Errno) {
	e, number := api.OK, uint32(0)
	switch a.What {
	case api.WhYield:
		p.join(x)
	case api.WhSleep:
		if a.Wait < 0 || a.Wait > 1073741824 {
			e = api.ErrRange
		} else if a.Wait > 0 {
			p.wait(x, nil, a)
			return false, api.OK
		}
	case api.WhRank:
		if a.V > 31 {
			e = api.ErrRange
		} else {
			x.seen.Base = int(a.V)
		}
	case api.WhNow:
		number = p.now
	case api.WhEnd:
		p.End(x.seen.Handle)
		return true, api.OK
	default:
		return p.doneOf(x, a)
	}
	p.answer(x, e, number)
	return true, e
}

// doneOf is a row of those of things.
func (p *plain) doneOf(x *plainTask, a api.Ask) (bool, api.Errno) {
	y, e := p.thing(a.H)
	if e == api.OK && (fitting(a.What) != y.made.Kind || a.What == api.WhAwait && a.M > 3) {
		e = api.ErrArg
	}
	if e == api.OK && waitable(a.What) && a.Wait > 1073741824 {
		e = api.ErrRange
	}
	number := uint32(0)
	if e == api.OK {
		switch a.What {
		case api.WhStart:
			e = p.start(y, a)
		case api.WhStop:
			if y.left == 0 {
				e = api.ErrState
			}
			y.left = 0
		default:
			if number, e = y.try(x.seen.Handle, a); e == api.OK {
				p.answer(x, e, number)
				p.serve(y)
				return true, e
			}
			if e == api.ErrState {
				if e = p.notYet(x, y, a); e == api.OK {
					p.wait(x, y, a)
					return false, e
				}
			}
		}
	}
	p.answer(x, e, number)
	return true, e
}

func (p *plain) start(y *plainThing, a api.Ask) api.Errno {
	if a.V < 1 || a.V > 1073741824 || a.M > 1073741824 {
		return api.ErrRange
	}
	y.left, y.each, y.started = int64(a.V), int64(a.M), p.turn()
	return api.OK
}

// notYet is what forbids it to wait.
func (p *plain) notYet(x *plainTask, y *plainThing, a api.Ask) api.Errno {
	if a.Wait == 0 {
		switch a.What {
		case api.WhPut, api.WhPush:
			return api.ErrFull
		case api.WhLock:
			return api.ErrBusy
		}
		return api.ErrEmpty
	}
	for at := y; a.What == api.WhLock; {
		owner, e := p.task(at.owner)
		if e != api.OK {
			break
		}
		if owner == x {
			return api.ErrState
		}
		if owner.thing == nil || owner.seen.Waits.What != api.WhLock {
			break
		}
		at = owner.thing
	}
	return api.OK
}

func (p *plain) wait(x *plainTask, y *plainThing, a api.Ask) {
	x.seen.State, x.seen.Waits, x.seen.Left, x.thing = api.StWaits, a, max(a.Wait, -1), y
	x.began, x.stood = p.turn(), p.turn()
}

func (p *plain) Signal(b api.Bind) api.Errno {
	y, e := p.target(b.H)
	if e != api.OK {
		return e
	}
	if y.made.Kind == api.KiCount {
		if y.count == y.made.B {
			return api.ErrFull
		}
		y.count++
	} else {
		y.count |= b.V
	}
	p.serve(y)
	p.tellRanks()
	return api.OK
}

func (p *plain) Tick() api.Errno {
	p.now++
	if x := p.running(); x != nil {
		x.ran++
		if x.ran >= p.slice {
			p.join(x)
		}
	}
	p.tellRanks()
	var over []*plainTask
	for _, x := range p.tasks {
		if x != nil && x.seen.Left > 0 {
			if x.seen.Left--; x.seen.Left == 0 {
				over = append(over, x)
			}
		}
	}
	slices.SortFunc(over, func(x, y *plainTask) int { return cmp.Compare(x.began, y.began) })
	for _, x := range over {
		if x.seen.Waits.What == api.WhSleep {
			p.answer(x, api.OK, 0)
		} else {
			p.answer(x, api.ErrTimeout, 0)
		}
		p.tellRanks()
	}
	p.come()
	return api.OK
}

func (p *plain) come() {
	var come []*plainThing
	for _, y := range p.things {
		if y != nil && y.left > 0 {
			if y.left--; y.left == 0 {
				come = append(come, y)
			}
		}
	}
	slices.SortFunc(come, func(x, y *plainThing) int { return cmp.Compare(x.started, y.started) })
	for _, y := range come {
		if y.each > 0 {
			y.left, y.started = y.each, p.turn()
		}
		p.Signal(api.Bind{H: y.made.A, V: y.made.B})
	}
}

func (p *plain) Runs() uint32 {
	if x := p.running(); x != nil {
		return x.seen.Handle
	}
	return 0
}

func (p *plain) Now() uint32 { return p.now }

func (p *plain) Tasks() []api.Task {
	var told []api.Task
	for _, x := range p.tasks {
		if x != nil {
			told = append(told, x.seen)
		}
	}
	return told
}

func plainHandles(those []*plainTask) []uint32 {
	var told []uint32
	for _, x := range those {
		told = append(told, x.seen.Handle)
	}
	return told
}

func (p *plain) Things() []api.Thing {
	var told []api.Thing
	for _, y := range p.things {
		if y == nil {
			continue
		}
		one := api.Thing{
			Handle: y.handle, Make: y.made, Count: y.count, Owner: y.owner, Left: y.left,
			Row: slices.Clone(y.row), Owners: slices.Clone(y.owners), Waits: plainHandles(p.waiting(y)),
		}
		for _, who := range y.owners {
			if who == 0 {
				one.Count++
			}
		}
		told = append(told, one)
	}
	return told
}

func (p *plain) Ready(rank int) []uint32 { return plainHandles(p.row(rank)) }

// caller is a kernel, as well as a plain reading of it.
type caller interface {
	Task(rank int) (uint32, api.Errno)
	End(h uint32) api.Errno
	Fault(h uint32) api.Errno
	Hold(h uint32) api.Errno
	Free(h uint32) api.Errno
	Rank(h uint32, rank int) api.Errno
	Thing(m api.Make) (uint32, api.Errno)
	Drop(h uint32) api.Errno
	Ask(a api.Ask) (bool, api.Errno)
	Signal(b api.Bind) api.Errno
	Tick() api.Errno
	Runs() uint32
	Now() uint32
	Tasks() []api.Task
	Things() []api.Thing
	Ready(rank int) []uint32
}

// view is all that is seen of a kernel.
type view struct {
	Runs   uint32
	Now    uint32
	Tasks  []api.Task
	Things []api.Thing
	Ready  [34][]uint32 // of the ranks from -1 to 32
}

// viewOf a kernel, in which empty lists are nil.
func viewOf(c caller) view {
	v := view{Runs: c.Runs(), Now: c.Now(), Tasks: c.Tasks(), Things: c.Things()}
	for i := range v.Ready {
		v.Ready[i] = noneIsNil(c.Ready(i - 1))
	}
	for i := range v.Things {
		x := &v.Things[i]
		x.Row, x.Owners, x.Waits = noneIsNil(x.Row), noneIsNil(x.Owners), noneIsNil(x.Waits)
	}
	if len(v.Tasks) == 0 {
		v.Tasks = nil
	}
	if len(v.Things) == 0 {
		v.Things = nil
	}
	return v
}

func noneIsNil(l []uint32) []uint32 {
	if len(l) == 0 {
		return nil
	}
	return l
}

// call is one of the calls, with what it is given; what it answers is told as text.
type call struct {
	name string
	h    uint32
	n    int
	make api.Make
	ask  api.Ask
	bind api.Bind
}

func (c call) of(k caller) string {
	switch c.name {
	case "Task":
		return fmt.Sprintln(k.Task(c.n))
	case "End":
		return fmt.Sprintln(k.End(c.h))
	case "Fault":
		return fmt.Sprintln(k.Fault(c.h))
	case "Hold":
		return fmt.Sprintln(k.Hold(c.h))
	case "Free":
		return fmt.Sprintln(k.Free(c.h))
	case "Rank":
		return fmt.Sprintln(k.Rank(c.h, c.n))
	case "Thing":
		return fmt.Sprintln(k.Thing(c.make))
	case "Drop":
		return fmt.Sprintln(k.Drop(c.h))
	case "Ask":
		return fmt.Sprintln(k.Ask(c.ask))
	case "Signal":
		return fmt.Sprintln(k.Signal(c.bind))
	case "Tick":
		return fmt.Sprintln(k.Tick())
	}
	panic(c.name)
}

// promised holds P0.1 to P0.5 against what is seen.
func promised(v view) string {
	names := map[uint32]api.Task{}
	for _, x := range v.Tasks {
		names[x.Handle] = x
		if !tasks.Check(x) {
			return fmt.Sprintf("a task is seen so: %+v", x)
		}
	}
	for _, what := range []string{ranksPromised(v, names), heirsPromised(v, names), blocksPromised(v, names)} {
		if what != "" {
			return what
		}
	}
	return ""
}

// ranksPromised: P0.1.
func ranksPromised(v view, names map[uint32]api.Task) string {
	stand, greatest := 0, -1
	for i, row := range v.Ready {
		for _, h := range row {
			x, ok := names[h]
			if !ok || x.State != api.StReady || x.Held || x.Rank != i-1 {
				return fmt.Sprintf("among those that may run: %d %+v", i-1, x)
			}
			stand++
			greatest = i
		}
	}
	may := 0
	for _, x := range names {
		if x.State == api.StReady && !x.Held {
			may++
		}
	}
	if may != stand {
		return fmt.Sprint("may run: ", may, ", stand: ", stand)
	}
	if greatest < 0 && v.Runs != 0 || greatest >= 0 && v.Runs != v.Ready[greatest][0] {
		return fmt.Sprint("runs: ", v.Runs)
	}
	return ""
}

// heirsPromised: P0.2, and that who waits is one of those that wait for that thing.
func heirsPromised(v view, names map[uint32]api.Task) string {
	waiting := 0
	for _, y := range v.Things {
		last := 31
		for _, h := range y.Waits {
			x, ok := names[h]
			if !ok || x.State != api.StWaits || x.Waits.H != y.Handle || x.Rank > last {
				return fmt.Sprintf("waits for %+v: %+v", y, x)
			}
			last = x.Rank
			waiting++
			if y.Make.Kind == api.KiLock && (y.Owner == 0 || names[y.Owner].Rank < x.Rank) {
				return fmt.Sprintf("has %+v: %+v", y, names[y.Owner])
			}
		}
		if owner, ok := names[y.Owner]; y.Owner != 0 && (!ok || owner.State == api.StFault) {
			return fmt.Sprintf("has %+v: nobody", y)
		}
	}
	for _, x := range names {
		if x.State == api.StWaits && x.Waits.What != api.WhSleep {
			waiting--
		}
	}
	if waiting != 0 {
		return fmt.Sprint("wait for things that nobody knows of: ", waiting)
	}
	return ""
}

// blocksPromised: P0.5.
func blocksPromised(v view, names map[uint32]api.Task) string {
	for _, y := range v.Things {
		if y.Make.Kind != api.KiPool {
			continue
		}
		free := uint32(0)
		for _, h := range y.Owners {
			if x, ok := names[h]; h == 0 {
				free++
			} else if !ok || x.State == api.StFault {
				return fmt.Sprintf("has a block of %+v: nobody", y)
			}
		}
		if len(y.Owners) != int(y.Make.A) || free != y.Count {
			return fmt.Sprintf("blocks: %+v", y)
		}
	}
	return ""
}

// twins are a kernel and a plain reading of it, of which all is asked alike.
type twins struct {
	t      *testing.T
	k      *Kernel
	p      *plain
	did    []call
	before view
}

func twinsOf(t *testing.T, s api.Setup) *twins {
	t.Helper()
	k, e := New(s)
	if e != api.OK {
		t.Fatalf("New(%+v): error %d", s, e)
	}
	return &twins{t: t, k: k, p: plainNew(s), before: viewOf(k)}
}

func (w *twins) do(c call) {
	w.t.Helper()
	w.did = append(w.did, c)
	if len(w.did) > 40 {
		w.did = w.did[1:]
	}
	answer, want := c.of(w.k), c.of(w.p)
	if answer != want {
		w.t.Fatalf("answer %s, want %s; behind %+v", answer, want, w.did)
	}
	now, wanted := viewOf(w.k), viewOf(w.p)
	if !reflect.DeepEqual(now, wanted) {
		w.t.Fatalf("seen\n%+v, want\n%+v; behind %+v", now, wanted, w.did)
	}
	if what := promised(now); what != "" {
		w.t.Fatalf("%s; behind %+v", what, w.did)
	}
	if what := endsPromised(w.before, now, c); what != "" {
		w.t.Fatalf("%s; behind %+v", what, w.did)
	}
	w.before = now
}

// endsPromised: P0.3 and P20.11: each wait ends in one way, and in time.
func endsPromised(before, now view, c call) string {
	names := map[uint32]api.Task{}
	for _, x := range now.Tasks {
		names[x.Handle] = x
	}
	for _, x := range before.Tasks {
		if x.State != api.StWaits {
			continue
		}
		y, ok := names[x.Handle]
		waitsOn := ok && y.State == api.StWaits
		left := x.Left
		if c.name == "Tick" && left > 0 {
			left--
		}
		switch {
		case waitsOn && (y.Answers != x.Answers || y.Waits != x.Waits || y.Left != left || left == 0):
			return fmt.Sprintf("waits on: %+v, ahead %+v", y, x)
		case ok && y.State == api.StReady && y.Answers != x.Answers+1:
			return fmt.Sprintf("answered: %+v, ahead %+v", y, x)
		case ok && y.State == api.StFault && (c.name != "Fault" || c.h != x.Handle || y.Answers != x.Answers):
			return fmt.Sprintf("at fault: %+v, ahead %+v", y, x)
		case !ok && (c.name != "End" || c.h != x.Handle):
			return fmt.Sprintf("no more: %+v", x)
		case ok && y.State == api.StReady && y.Last == api.ErrTimeout && (c.name != "Tick" || x.Left != 1):
			return fmt.Sprintf("too long: %+v, ahead %+v", y, x)
		}
	}
	return ""
}

// draw tells numbers that look as if by chance, the same ones in each run.
type draw struct{ at uint64 }

func (d *draw) to(n int) int {
	d.at = d.at*6364136223846793005 + 1442695040888963407
	return int(d.at >> 33 % uint64(n))
}

func oneOf[T any](d *draw, those ...T) T { return those[d.to(len(those))] }

// mix is of what a long run is made: how often each is drawn.
type mix struct {
	slice   int
	ranks   []int
	most    int // tasks
	kinds   []api.Kind
	askings []api.What
	waits   []int64
	end     int // in how many calls there is one of these
	held    int
	drop    int
	signal  int
	tick    int
	wrong   int
}

func mixes() []mix {
	all := []api.Kind{api.KiCount, api.KiLock, api.KiRow, api.KiFlags, api.KiPool, api.KiAlarm}
	return []mix{
		{slice: 2, ranks: []int{0, 3, 3, 7, 31}, most: 16, kinds: all, waits: []int64{0, 1, 2, 3, 5, -1, -7, 9}, end: 30, held: 20, drop: 60, signal: 8, tick: 4, wrong: 12},
		{slice: 1, ranks: []int{1, 2, 3, 4, 5, 6, 7, 8}, most: 9, kinds: []api.Kind{api.KiLock}, waits: []int64{1, 2, 3, 4, 9, -1, -1, -1, 20}, end: 40, held: 15, drop: 90, signal: 900, tick: 5, wrong: 60},
		{slice: 3, ranks: []int{2, 2, 2, 5}, most: 12, kinds: []api.Kind{api.KiLock, api.KiLock, api.KiLock, api.KiPool, api.KiRow}, waits: []int64{0, 4, 7, -1, -2}, end: 50, held: 40, drop: 70, signal: 900, tick: 6, wrong: 60},
		{slice: 4, ranks: []int{0, 1}, most: 8, kinds: []api.Kind{api.KiRow, api.KiPool}, waits: []int64{0, 1, 1, 2, 6, -1}, end: 70, held: 30, drop: 100, signal: 300, tick: 5, wrong: 40},
		{slice: 1000, ranks: []int{0, 31, 15}, most: 16, kinds: []api.Kind{api.KiFlags, api.KiFlags, api.KiCount, api.KiAlarm, api.KiAlarm}, waits: []int64{0, 2, 3, 8, -1, -1 << 62}, end: 50, held: 40, drop: 60, signal: 6, tick: 3, wrong: 40},
	}
}

// handle is one that is there, most of the time, else one that is none, or was dropped, or of the other kind.
func (d *draw) handle(those []uint32, wrong int) uint32 {
	if len(those) == 0 || d.to(wrong) == 0 {
		return oneOf(d, 0, 255, 256, 257, 263, 512, 513, 768, 1<<32-1, 288, uint32(d.to(1500)))
	}
	return those[d.to(len(those))]
}

// made is of what a thing may be, small, most of the time.
func (d *draw) made(m mix, targets []uint32) api.Make {
	kind := oneOf(d, m.kinds...)
	if d.to(m.wrong) == 0 {
		return api.Make{Kind: api.Kind(d.to(8)), A: oneOf[uint32](d, 0, 1, 64, 65, 1<<31), B: oneOf[uint32](d, 0, 1, 256, 257, 1<<30, 1<<30+1)}
	}
	switch kind {
	case api.KiCount:
		b := uint32(1 + d.to(3))
		return api.Make{Kind: kind, A: uint32(d.to(int(b) + 1)), B: b}
	case api.KiRow:
		return api.Make{Kind: kind, A: uint32(1 + d.to(3))}
	case api.KiFlags:
		return api.Make{Kind: kind, A: uint32(d.to(8))}
	case api.KiPool:
		return api.Make{Kind: kind, A: uint32(1 + d.to(3)), B: 8}
	case api.KiAlarm:
		return api.Make{Kind: kind, A: d.handle(targets, m.wrong), B: uint32(d.to(8))}
	}
	return api.Make{Kind: kind}
}

// asked is what a task may ask of a thing, most of the time.
func (d *draw) asked(m mix, things []api.Thing) api.Ask {
	free := []api.What{api.WhYield, api.WhSleep, api.WhRank, api.WhNow, api.WhSleep, api.WhEnd}
	a := api.Ask{What: oneOf(d, free...), V: uint32(d.to(8)), M: uint32(d.to(4)), Wait: oneOf(d, m.waits...)}
	if a.What == api.WhEnd && d.to(4) > 0 {
		a.What = api.WhYield
	}
	if len(things) > 0 && d.to(5) > 0 {
		y := things[d.to(len(things))]
		a.H, a.What = y.Handle, oneOf(d, askedOf(y.Make.Kind)...)
		if a.What == api.WhFree && d.to(6) > 0 {
			a.V = uint32(d.to(int(y.Make.A)))
		}
	}
	if a.What == api.WhSleep {
		a.Wait = int64(d.to(6))
	}
	if d.to(m.wrong) == 0 {
		a.Wait = oneOf(d, a.Wait, -1, 1<<30, 1<<30+1, 1<<62)
		a.V = oneOf(d, a.V, 31, 32, 1<<30, 1<<30+1, 1<<32-1)
		a.M = oneOf(d, a.M, 4, 1<<30, 1<<30+1, 1<<32-1)
		a.H = oneOf(d, a.H, 0, 256, 512, 1<<32-1)
		a.What = oneOf(d, a.What, a.What, api.What(d.to(22)))
	}
	return a
}

func askedOf(kind api.Kind) []api.What {
	switch kind {
	case api.KiCount:
		return []api.What{api.WhTake, api.WhTake, api.WhGive}
	case api.KiLock:
		return []api.What{api.WhLock, api.WhLock, api.WhLock, api.WhUnlock}
	case api.KiRow:
		return []api.What{api.WhPut, api.WhPush, api.WhGet, api.WhGet, api.WhPeek}
	case api.KiFlags:
		return []api.What{api.WhAwait, api.WhAwait, api.WhAwait, api.WhRaise, api.WhLower}
	case api.KiPool:
		return []api.What{api.WhAlloc, api.WhAlloc, api.WhFree}
	}
	return []api.What{api.WhStart, api.WhStart, api.WhStart, api.WhStop}
}

// next call of a long run.
func (d *draw) next(m mix, v view) call {
	var those, things, targets []uint32
	for _, x := range v.Tasks {
		those = append(those, x.Handle)
	}
	for _, y := range v.Things {
		things = append(things, y.Handle)
		if y.Make.Kind == api.KiCount || y.Make.Kind == api.KiFlags {
			targets = append(targets, y.Handle)
		}
	}
	switch {
	case len(those) < m.most && d.to(6) == 0 || len(those) == 0 || d.to(200) == 0:
		return call{name: "Task", n: d.rank(m)}
	case len(things) < 7 && d.to(5) == 0 || d.to(90) == 0:
		return call{name: "Thing", make: d.made(m, targets)}
	case d.to(m.end) == 0 || v.Runs == 0 && d.to(15) == 0:
		return call{name: oneOf(d, "End", "End", "Fault"), h: d.handle(those, m.wrong)}
	case d.to(m.held) == 0:
		return call{name: oneOf(d, "Hold", "Free", "Free", "Rank"), h: d.handle(those, m.wrong), n: d.rank(m)}
	case d.to(m.drop) == 0:
		return call{name: "Drop", h: d.handle(things, m.wrong)}
	case d.to(m.signal) == 0:
		return call{name: "Signal", bind: api.Bind{H: d.handle(targets, m.wrong), V: uint32(d.to(8))}}
	case d.to(m.tick) == 0 || v.Runs == 0 && d.to(5) > 0:
		return call{name: "Tick"}
	}
	return call{name: "Ask", ask: d.asked(m, v.Things)}
}

func (d *draw) rank(m mix) int {
	if d.to(m.wrong) == 0 {
		return oneOf(d, -1, 32, -1<<63, 1<<32)
	}
	return oneOf(d, m.ranks...)
}

// P0.1 to P0.5, P20.11: behind each call of long runs of all kinds, against a plain reading of the chapter.
func TestLongRuns(t *testing.T) {
	for i, m := range mixes() {
		for begin := range 8 {
			d := &draw{at: uint64(100*i + begin)}
			w := twinsOf(t, api.Setup{Slice: m.slice, Now: 1<<32 - 50})
			for range 4000 {
				w.do(d.next(m, w.before))
			}
		}
	}
}

// P20.2 to P20.8: each short run of some calls, one behind the other, against a plain reading of the chapter.
func TestShortRuns(t *testing.T) {
	lock := func(h uint32, wait int64) call {
		return call{name: "Ask", ask: api.Ask{What: api.WhLock, H: h, Wait: wait}}
	}
	unlock := func(h uint32) call { return call{name: "Ask", ask: api.Ask{What: api.WhUnlock, H: h}} }
	calls := []call{
		lock(256, -1), lock(257, 2), unlock(256), unlock(257), lock(256, 1),
		{name: "Ask", ask: api.Ask{What: api.WhSleep, Wait: 1}},
		{name: "Ask", ask: api.Ask{What: api.WhYield}},
		{name: "Tick"},
		{name: "Hold", h: 257}, {name: "Free", h: 257}, {name: "Rank", h: 256, n: 2}, {name: "Fault", h: 258}, {name: "End", h: 257}, {name: "Drop", h: 256},
	}
	const deep = 4
	var run func(chosen []call)
	run = func(chosen []call) {
		if len(chosen) < deep {
			for _, c := range calls {
				run(append(chosen, c))
			}
			return
		}
		w := twinsOf(t, api.Setup{Slice: 1})
		begin := []call{
			{name: "Task", n: 1}, {name: "Thing", make: api.Make{Kind: api.KiLock}}, {name: "Thing", make: api.Make{Kind: api.KiLock}},
			lock(256, 0), {name: "Task", n: 3}, lock(257, 0), {name: "Task", n: 3},
		}
		for _, c := range append(begin, chosen...) {
			if answer, want := c.of(w.k), c.of(w.p); answer != want {
				t.Fatalf("%+v: answer %s, want %s; of %+v", c, answer, want, chosen)
			}
		}
		w.before = viewOf(w.k)
		w.did = chosen
		w.do(call{name: "Tick"})
		w.do(call{name: "Tick"})
	}
	run(nil)
}
