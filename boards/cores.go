package boards

import (
	"maps"

	"timekeeper/api"
	"timekeeper/cpu"
)

// seated is a core, and how many answers its task had when they were looked at last.
type seated struct {
	*cpu.Core
	answers int
}

// step does an instruction of the task that runs, if that has a core.
func (b *Board) step() bool {
	h := b.kernel.Runs()
	c, ok := b.cores[h]
	if !ok {
		return false
	}
	asks, a, e := c.Step()
	switch {
	case e == api.ErrFault:
		b.kernel.Fault(h)
	case asks:
		b.kernel.Ask(a)
	default:
		return true // nobody was answered, as nobody but the core did anything
	}
	b.handOn()
	return true
}

// handOn brings what tasks were answered since it was looked at last into their cores. A core that did not ask refuses it, so that it need not be kept here who did.
func (b *Board) handOn() {
	for _, t := range b.kernel.Tasks() {
		c, ok := b.cores[t.Handle]
		if ok && t.Answers != c.answers {
			c.Answer(t.Last, t.Value)
			c.answers = t.Answers
		}
	}
}

// core of a task, which has all that it was answered; none beside an error.
func (b *Board) core(h uint32) (*cpu.Core, api.Errno) {
	if !b.isThere() {
		return nil, api.ErrNil
	}
	if e := b.mayName(h); e != api.OK {
		return nil, e
	}
	c, ok := b.cores[h]
	if !ok {
		return nil, api.ErrArg
	}
	b.handOn()
	return c.Core, api.OK
}

// mayName tells what a handle's error in the kernel's calls is.
func (b *Board) mayName(h uint32) api.Errno {
	const noRank = -1 // a call with it changes nothing, and comes to be refused for it behind the handle's errors alone
	if e := b.kernel.Rank(h, noRank); e != api.ErrRange {
		return e
	}
	return api.OK
}

// forget the cores of tasks that are no more. It is enough where a core comes: none is asked for by a handle that was dropped.
func (b *Board) forget() {
	maps.DeleteFunc(b.cores, func(h uint32, _ *seated) bool { return b.mayName(h) != api.OK })
}
