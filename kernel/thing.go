package kernel

import (
	"timekeeper/api"
	"timekeeper/objects"
	"timekeeper/waits"
)

// fromWithout is who gives what no task gives: no task has that handle.
const fromWithout = 1

// thing of a kernel.
type thing struct {
	handle  uint32
	place   int
	made    api.Make
	object  *objects.Thing
	waiters *waits.Queue // the places of the tasks that wait for it
}

// isInUse is whether it is a pool of which a block is somebody's.
func (x *thing) isInUse() bool {
	return x.made.Kind == api.KiPool && x.object.See().Count < x.made.A
}

// serve all for whom it is enough by now.
func (k *Kernel) serve(x *thing) {
	for k.serveFirst(x) {
	}
}

// serveFirst of those for whom it is enough: what one of them takes may be what it needs for those ahead of them, too.
func (k *Kernel) serveFirst(x *thing) bool {
	for _, place := range x.waiters.List() {
		t := k.tasks.at[place]
		if number, e := x.object.Try(t.Handle, t.Waits); e == api.OK {
			k.answer(t, api.OK, number)
			return true
		}
	}
	return false
}

// letGo of all that a task has.
func (k *Kernel) letGo(h uint32) {
	for x := range k.things.all() {
		if x.object.Leave(h) {
			k.serve(x)
		}
	}
}

// signalOf is what is asked of a thing of that kind from without; WhNone: nothing is.
func signalOf(kind api.Kind) api.What {
	switch kind {
	case api.KiCount:
		return api.WhGive
	case api.KiFlags:
		return api.WhRaise
	}
	return api.WhNone
}

// target is a thing that is given to from without.
func (k *Kernel) target(h uint32) (*thing, api.Errno) {
	x, e := k.things.find(h)
	if e != api.OK {
		return nil, e
	}
	if signalOf(x.made.Kind) == api.WhNone {
		return nil, api.ErrArg
	}
	return x, api.OK
}

// mayAlarm tells what forbids an alarm: whom it is for.
func (k *Kernel) mayAlarm(m api.Make) api.Errno {
	if m.Kind != api.KiAlarm {
		return api.OK
	}
	_, e := k.target(m.A)
	return e
}

// seenThing is a thing as it is seen.
func (k *Kernel) seenThing(x *thing) api.Thing {
	told := x.object.See()
	told.Handle = x.handle
	told.Left = k.alarms.Left(x.place)
	told.Waits = k.handlesOf(x.waiters.List())
	return told
}
