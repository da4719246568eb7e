package boards

import (
	"reflect"
	"testing"

	"timekeeper/api"
	"timekeeper/kernel"
)

// draw gives numbers that look like none has been chosen, the same ones each time.
type draw uint64

func (d *draw) below(n int) int {
	*d = *d*6364136223846793005 + 1442695040888963407
	return int(uint64(*d>>33) % uint64(n))
}

func (d *draw) oneIn(n int) bool { return d.below(n) == 0 }

func (d *draw) reg() uint8 { return uint8(d.below(8)) }

// handle of a thing or a task, now and then one that is none.
func (d *draw) handle() uint32 {
	if d.oneIn(20) {
		return uint32(d.below(300))
	}
	return uint32(256*(1+d.below(1+d.below(3))) + d.below(8))
}

// made is what a thing is made of; with little room, so that tasks wait for each other.
func (d *draw) made() api.Make {
	switch d.below(8) {
	case 0, 1:
		return api.Make{Kind: api.KiCount, A: uint32(d.below(2)), B: uint32(1 + d.below(3))}
	case 2, 7:
		return api.Make{Kind: api.KiLock}
	case 3:
		return api.Make{Kind: api.KiRow, A: uint32(1 + d.below(2))}
	case 4:
		return api.Make{Kind: api.KiFlags, A: uint32(d.below(4))}
	case 5:
		return api.Make{Kind: api.KiPool, A: uint32(1 + d.below(2)), B: 4}
	}
	return api.Make{Kind: api.KiAlarm, A: d.handle()}
}

// ask of a thing of that kind, mostly.
func (d *draw) ask(things []api.Thing) api.Ask {
	a := api.Ask{What: api.What(1 + d.below(19)), H: d.handle(), V: uint32(d.below(5)), M: uint32(d.below(5)), Wait: int64(d.below(8) - 2)}
	if len(things) == 0 || d.oneIn(4) {
		return a
	}
	x := things[d.below(len(things))]
	a.H = x.Handle
	switch x.Make.Kind {
	case api.KiCount:
		a.What = []api.What{api.WhTake, api.WhTake, api.WhGive}[d.below(3)]
	case api.KiLock:
		a.What = []api.What{api.WhLock, api.WhLock, api.WhUnlock}[d.below(3)]
	case api.KiRow:
		a.What = []api.What{api.WhPut, api.WhPush, api.WhGet, api.WhGet, api.WhPeek}[d.below(5)]
	case api.KiFlags:
		a.What = []api.What{api.WhAwait, api.WhAwait, api.WhRaise, api.WhLower}[d.below(4)]
	case api.KiPool:
		a.What = []api.What{api.WhAlloc, api.WhAlloc, api.WhFree}[d.below(3)]
	case api.KiAlarm:
		a.What = []api.What{api.WhStart, api.WhStart, api.WhStop}[d.below(3)]
	}
	return a
}

// askingOf are instructions that ask this, and say what it is answered.
func askingOf(a api.Ask) []api.Instr {
	l := []api.Instr{
		{Op: api.OpSet, A: 0, B: uint8(a.H >> 8), C: uint8(a.H)},
		{Op: api.OpSet, A: 1, C: uint8(a.V)},
		{Op: api.OpSet, A: 2, C: uint8(a.M)},
		{Op: api.OpSet, A: 3, C: uint8(max(0, a.Wait))},
	}
	if a.Wait < 0 {
		l = append(l, api.Instr{Op: api.OpSet, A: 3}, api.Instr{Op: api.OpSet, A: 7, C: 1}, api.Instr{Op: api.OpSub, A: 3, B: 3, C: 7})
	}
	return append(l, api.Instr{Op: api.OpAsk, A: uint8(a.What)}, api.Instr{Op: api.OpTell, A: 0}, api.Instr{Op: api.OpTell, A: 1})
}

// quiet is an instruction that asks for nothing; a fault, if the place is far.
func (d *draw) quiet(fault bool) api.Instr {
	switch d.below(6) {
	case 0:
		return api.Instr{Op: api.OpSet, A: d.reg(), C: uint8(d.below(9))}
	case 1:
		return api.Instr{Op: api.OpAdd + api.Op(d.below(8)), A: d.reg(), B: d.reg(), C: d.reg()}
	case 2:
		return api.Instr{Op: api.OpTell, A: d.reg()}
	case 3:
		return api.Instr{Op: api.OpSame + api.Op(d.below(4)), A: d.reg(), B: d.reg(), C: uint8(d.below(3))}
	case 4:
		if fault {
			return api.Instr{Op: api.OpLoad + api.Op(d.below(4)), A: d.reg(), B: d.reg(), C: uint8(d.below(5))}
		}
	}
	return api.Instr{Op: api.OpMove, A: d.reg(), B: d.reg()}
}

// image of some asks, with quiet instructions between them, mostly one that goes round for ever.
func (d *draw) image(things []api.Thing) api.Image {
	m := api.Image{Size: 8 * d.below(40), Data: nil}
	for range 1 + d.below(4) {
		for range d.below(3) {
			m.Code = append(m.Code, d.quiet(d.oneIn(6)))
		}
		if !d.oneIn(6) {
			m.Code = append(m.Code, askingOf(d.ask(things))...)
		}
	}
	switch d.below(8) {
	case 0:
		m.Code = append(m.Code, api.Instr{Op: api.OpEnd})
	case 1, 2: // it falls out of its code, a fault
	default:
		m.Code = append(m.Code, api.Instr{Op: api.OpGo})
	}
	return m
}

// act does one drawn thing to both.
func (x both) act(t *testing.T, d *draw) {
	k := x.b.Kernel()
	switch d.below(22) {
	case 0, 1:
		x.load(t, d.image(k.Things()), d.below(7))
	case 2, 3, 4, 5, 6:
		x.run(t, d.below(1+d.below(40)))
	case 7, 8, 9:
		is(t, "Tick", x.b.Tick(), x.p.k.Tick())
	case 10, 11:
		line := d.below(8)
		is(t, "Raise", x.b.Raise(line), x.p.raise(line))
	case 12:
		line, on := d.below(8), d.oneIn(2)
		is(t, "Mask", x.b.Mask(line, on), x.p.mask(line, on))
	case 13:
		line, to := d.below(8), api.Bind{H: d.handle(), V: uint32(d.below(4))}
		if d.oneIn(4) {
			to.H = 0
		}
		is(t, "Bind", x.b.Bind(line, to), x.p.bind(line, to))
	case 14:
		m := d.made()
		x.outside(t, func(k *kernel.Kernel) any { h, e := k.Thing(m); return []any{h, e} })
	case 15, 16:
		a := d.ask(k.Things())
		x.outside(t, func(k *kernel.Kernel) any { answered, e := k.Ask(a); return []any{answered, e} })
	case 17, 18:
		x.actOutside(t, d)
	case 19:
		x.inside(t, d.handle())
	case 20:
		x.wrong(t, d)
	case 21:
		for _, task := range k.Tasks() {
			x.inside(t, task.Handle)
		}
	}
}

// actOutside asks the kernels of a task, or a thing, from without.
func (x both) actOutside(t *testing.T, d *draw) {
	h, rank := d.handle(), d.below(7)
	if l := x.b.Kernel().Tasks(); len(l) > 0 && !d.oneIn(4) {
		h = l[d.below(len(l))].Handle
	}
	switch d.below(12) {
	case 0, 1:
		x.outside(t, func(k *kernel.Kernel) any { return k.End(h) })
	case 2:
		x.outside(t, func(k *kernel.Kernel) any { return k.Fault(h) })
	case 3:
		x.outside(t, func(k *kernel.Kernel) any { return k.Hold(h) })
	case 4, 5:
		x.outside(t, func(k *kernel.Kernel) any { return k.Free(h) })
	case 6:
		x.outside(t, func(k *kernel.Kernel) any { return k.Rank(h, rank) })
	case 7:
		h = d.handle()
		x.outside(t, func(k *kernel.Kernel) any { return k.Drop(h) })
	case 8, 9, 10:
		h = d.handle()
		x.outside(t, func(k *kernel.Kernel) any { return k.Signal(api.Bind{H: h, V: uint32(rank)}) })
	case 11:
		x.outside(t, func(k *kernel.Kernel) any { h, e := k.Task(rank); return []any{h, e} })
	}
}

// wrong does what is refused.
func (x both) wrong(t *testing.T, d *draw) {
	line := []int{-1, 8, 99}[d.below(3)]
	switch d.below(5) {
	case 0:
		is(t, "Raise", x.b.Raise(line), x.p.raise(line))
	case 1:
		is(t, "Mask", x.b.Mask(line, false), x.p.mask(line, false))
	case 2:
		is(t, "Bind", x.b.Bind(line, api.Bind{H: 256}), x.p.bind(line, api.Bind{H: 256}))
	case 3:
		x.run(t, []int{-1, api.MaxRun + 1}[d.below(2)])
	case 4:
		x.load(t, api.Image{Size: d.below(3) - 2}, 40)
	}
}

// clearOut ends tasks that are at fault, or one of many, so that others may come.
func (x both) clearOut(t *testing.T) {
	l := x.b.Kernel().Tasks()
	for i, task := range l {
		if task.State == api.StFault || i > 10 {
			x.outside(t, func(k *kernel.Kernel) any { return k.End(task.Handle) })
		}
	}
}

// P22.1 to P22.7: long runs of drawn acts against the plain reading.
func TestDrawnRuns(t *testing.T) {
	said, answered, faults, waiting := 0, 0, 0, 0
	for seed := range 120 {
		d := draw(seed)
		x := newBoth(t, api.Setup{Slice: 1 + d.below(4), Now: uint32(d.below(3) - 1)})
		for range 2 + d.below(6) {
			m := d.made()
			x.outside(t, func(k *kernel.Kernel) any { h, e := k.Thing(m); return []any{h, e} })
		}
		for range 300 {
			x.act(t, &d)
			if d.oneIn(15) {
				x.clearOut(t)
			}
			x.seen(t)
		}
		for _, task := range x.b.Kernel().Tasks() {
			said += len(x.inside(t, task.Handle).console)
			answered += task.Answers
			if task.State == api.StFault {
				faults++
			}
			if task.State == api.StWaits {
				waiting++
			}
		}
	}
	if said < 1000 || answered < 1000 || faults < 10 || waiting < 100 {
		t.Errorf("%d bytes said, %d answers, %d at fault, %d that wait", said, answered, faults, waiting)
	}
}

// populated is a drawn board with things and tasks.
func populated(t *testing.T, d *draw) (*Board, []uint32) {
	t.Helper()
	b := begins(t, 1+d.below(3))
	for range 2 + d.below(6) {
		b.Kernel().Thing(d.made())
	}
	var l []uint32
	for range 2 + d.below(6) {
		h, e := b.Load(d.image(b.Kernel().Things()), d.below(4))
		is(t, "Load", e, api.OK)
		l = append(l, h)
	}
	return b, l
}

// P22.7: what is run in pieces is as run at once: every cut of short runs.
func TestEveryCut(t *testing.T) {
	const most = 8
	for seed := range 20 {
		for cut := range 1 << (most - 1) {
			d, same := draw(seed), draw(seed)
			a, l := populated(t, &d)
			b, _ := populated(t, &same)
			before := d.below(60)
			a.Run(before)
			b.Run(before)
			at, sum := 0, 0
			for i := 1; i <= most; i++ {
				if i == most || cut>>(i-1)&1 == 1 {
					n, e := a.Run(i - at)
					is(t, "Run", e, api.OK)
					sum += n
					at = i
				}
			}
			does(t, b, most, sum)
			isWhole(t, a, wholeOf(t, b, l...), l...)
		}
	}
}

// P22.7: the same of drawn runs, looked at between the pieces, or not, and with empty pieces.
func TestDrawnCuts(t *testing.T) {
	for seed := range 150 {
		d, same := draw(seed), draw(seed)
		a, l := populated(t, &d)
		b, _ := populated(t, &same)
		for range 6 {
			n := d.below(200)
			want, _ := a.Run(n)
			sum, left := 0, n
			for left > 0 {
				piece := d.below(left + 1)
				if d.oneIn(3) {
					insideOf(t, b, l...)
				}
				done, _ := b.Run(piece)
				sum, left = sum+done, left-piece
			}
			if sum != want {
				t.Fatalf("in pieces %d are done, at once %d", sum, want)
			}
			isWhole(t, b, wholeOf(t, a, l...), l...)
			a.Tick()
			b.Tick()
			if !d.oneIn(3) {
				continue
			}
			line, to := d.below(8), api.Bind{H: d.handle(), V: 3}
			for _, x := range []*Board{a, b} {
				x.Bind(line, to)
				x.Raise(line)
			}
		}
	}
}

// P22.7, P0.4: what a task's instructions do that ask for nothing changes nothing that can be seen of another task, and of things.
func TestQuietInstructions(t *testing.T) {
	done := 0
	for seed := range 60 {
		d := draw(seed)
		b, l := populated(t, &d)
		for range 250 {
			if d.oneIn(12) {
				b.Tick()
			}
			h := b.Kernel().Runs()
			if h == 0 {
				continue
			}
			before := wholeOf(t, b, l...)
			b.Run(1)
			after := wholeOf(t, b, l...)
			if answersOf(after.view, h) != answersOf(before.view, h) {
				continue // it asked for something
			}
			done++
			for i := range l {
				if l[i] == h {
					before.cores[i], after.cores[i] = inside{}, inside{}
				}
			}
			if !reflect.DeepEqual(before, after) {
				t.Fatalf("an instruction of %d has changed\n%+v to\n%+v", h, before, after)
			}
		}
	}
	if done < 1000 {
		t.Errorf("only %d instructions asked for nothing", done)
	}
}

// answersOf a task that runs and goes on; below 0, if it does not.
func answersOf(v view, h uint32) int {
	for _, x := range v.tasks {
		if x.Handle == h && x.State == api.StReady {
			return x.Answers
		}
	}
	return -1
}

// R5: the same board, run the same way, does the same twice.
func TestRunsAreTheSame(t *testing.T) {
	for seed := range 30 {
		d, same := draw(seed), draw(seed)
		a, l := populated(t, &d)
		b, _ := populated(t, &same)
		for range 20 {
			x, _ := a.Run(50)
			does(t, b, 50, x)
			a.Tick()
			b.Tick()
			isWhole(t, b, wholeOf(t, a, l...), l...)
		}
	}
}
