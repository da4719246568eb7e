package timers

import (
	"slices"
	"testing"

	"timekeeper/api"
)

// alarm is one that runs: at which tick it comes, in how many it comes again, and by its turn whether it stands ahead of another one.
type alarm struct {
	id       int
	at, each int64
	turn     int
}

// plain is a plain reading of the chapter: the ticks are counted, and so is how often an alarm was started, or came.
type plain struct {
	now   int64
	turns int
	runs  []alarm
}

func (p *plain) place(id int) int {
	return slices.IndexFunc(p.runs, func(one alarm) bool { return one.id == id })
}

func (p *plain) turn() int {
	p.turns++
	return p.turns
}

func (p *plain) start(id int, in, each int64) api.Errno {
	if id < 0 {
		return api.ErrArg
	}
	if in < 1 || in > 1073741824 || each < 0 || each > 1073741824 {
		return api.ErrRange
	}
	p.stop(id)
	p.runs = append(p.runs, alarm{id, p.now + in, each, p.turn()})
	return api.OK
}

func (p *plain) stop(id int) api.Errno {
	place := p.place(id)
	if place < 0 {
		return api.ErrState
	}
	p.runs = slices.Delete(p.runs, place, place+1)
	return api.OK
}

func (p *plain) tick() []int {
	p.now++
	var come []alarm
	for _, one := range p.runs {
		if one.at == p.now {
			come = append(come, one)
		}
	}
	slices.SortFunc(come, func(a, b alarm) int { return a.turn - b.turn })
	var told []int
	for _, one := range come {
		told = append(told, one.id)
		p.stop(one.id)
		if one.each > 0 {
			p.runs = append(p.runs, alarm{one.id, p.now + one.each, one.each, p.turn()})
		}
	}
	return told
}

func (p *plain) left(id int) int64 {
	place := p.place(id)
	if place < 0 {
		return 0
	}
	return p.runs[place].at - p.now
}

// both are alarms and the plain reading of them: what is done to the one is done to the other, and they have to answer alike.
type both struct {
	a *Alarms
	p *plain
}

func newBoth() both { return both{New(), &plain{}} }

func (b both) start(t *testing.T, id int, in, each int64) {
	t.Helper()
	starts(t, b.a, id, in, each, b.p.start(id, in, each))
}

func (b both) stop(t *testing.T, id int) {
	t.Helper()
	stops(t, b.a, id, b.p.stop(id))
}

func (b both) tick(t *testing.T) {
	t.Helper()
	comes(t, b.a, b.p.tick()...)
}

func (b both) left(t *testing.T, ids ...int) {
	t.Helper()
	for _, id := range ids {
		leaves(t, b.a, id, b.p.left(id))
	}
}
