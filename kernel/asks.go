package kernel

import (
	"timekeeper/api"
	"timekeeper/heirs"
	"timekeeper/tasks"
)

// mostMode is the greatest M of WhAwait: all of them, and they go.
const mostMode = 3

// doing is how what the task that runs asks is done.
type doing func(k *Kernel, t *task, a api.Ask) (answered bool, e api.Errno)

// doings are all that may be asked.
func doings() map[api.What]doing {
	return map[api.What]doing{
		api.WhYield:  (*Kernel).yield,
		api.WhSleep:  (*Kernel).sleep,
		api.WhTake:   (*Kernel).try,
		api.WhGive:   (*Kernel).try,
		api.WhLock:   (*Kernel).try,
		api.WhUnlock: (*Kernel).try,
		api.WhPut:    (*Kernel).try,
		api.WhPush:   (*Kernel).try,
		api.WhGet:    (*Kernel).try,
		api.WhPeek:   (*Kernel).try,
		api.WhAwait:  (*Kernel).try,
		api.WhRaise:  (*Kernel).try,
		api.WhLower:  (*Kernel).try,
		api.WhAlloc:  (*Kernel).try,
		api.WhFree:   (*Kernel).try,
		api.WhStart:  (*Kernel).start,
		api.WhStop:   (*Kernel).stop,
		api.WhRank:   (*Kernel).setBase,
		api.WhNow:    (*Kernel).tellNow,
		api.WhEnd:    (*Kernel).endSelf,
	}
}

// reply answers the task that runs at once.
func (k *Kernel) reply(t *task, e api.Errno, number uint32) (bool, api.Errno) {
	k.answer(t, e, number)
	return true, e
}

func (k *Kernel) yield(t *task, _ api.Ask) (bool, api.Errno) {
	k.join(t)
	return k.reply(t, api.OK, 0)
}

func (k *Kernel) sleep(t *task, a api.Ask) (bool, api.Errno) {
	if a.Wait < 0 || a.Wait > api.MaxWait {
		return k.reply(t, api.ErrRange, 0)
	}
	if a.Wait == 0 {
		return k.reply(t, api.OK, 0)
	}
	k.wait(t, nil, a)
	return false, api.OK
}

func (k *Kernel) setBase(t *task, a api.Ask) (bool, api.Errno) {
	if a.V > api.MaxRank {
		return k.reply(t, api.ErrRange, 0)
	}
	t.Base = int(a.V)
	return k.reply(t, api.OK, 0)
}

func (k *Kernel) tellNow(t *task, _ api.Ask) (bool, api.Errno) {
	return k.reply(t, api.OK, k.now)
}

// endSelf answers nobody: who would be answered is no more.
func (k *Kernel) endSelf(t *task, _ api.Ask) (bool, api.Errno) {
	k.end(t)
	return true, api.OK
}

func (k *Kernel) start(t *task, a api.Ask) (bool, api.Errno) {
	x, e := k.asked(a)
	if e == api.OK {
		e = k.alarms.Start(x.place, int64(a.V), int64(a.M))
	}
	return k.reply(t, e, 0)
}

func (k *Kernel) stop(t *task, a api.Ask) (bool, api.Errno) {
	x, e := k.asked(a)
	if e == api.OK {
		e = k.alarms.Stop(x.place)
	}
	return k.reply(t, e, 0)
}

func (k *Kernel) try(t *task, a api.Ask) (bool, api.Errno) {
	x, e := k.asked(a)
	if e != api.OK {
		return k.reply(t, e, 0)
	}
	number, e := x.object.Try(t.Handle, a)
	if e == api.ErrState {
		return k.notYet(t, x, a)
	}
	k.answer(t, e, number)
	if e == api.OK {
		k.serve(x)
	}
	return true, e
}

// notYet is what becomes of a task that asks for what is not there yet.
func (k *Kernel) notYet(t *task, x *thing, a api.Ask) (bool, api.Errno) {
	if a.Wait == 0 {
		return k.reply(t, refusal(a.What), 0)
	}
	if heirs.Circle(k.awaited(), t.place, k.ownerOf(x)) {
		return k.reply(t, api.ErrState, 0)
	}
	k.wait(t, x, a)
	return false, api.OK
}

// asked is the thing that is asked, if it may be asked that.
func (k *Kernel) asked(a api.Ask) (*thing, api.Errno) {
	x, e := k.things.find(a.H)
	if e != api.OK {
		return nil, e
	}
	if !tasks.Fits(a, x.made.Kind) || a.What == api.WhAwait && a.M > mostMode {
		return nil, api.ErrArg
	}
	if tasks.Blocks(a) && a.Wait > api.MaxWait {
		return nil, api.ErrRange
	}
	return x, api.OK
}

// refusal of one that does not wait at all.
func refusal(w api.What) api.Errno {
	switch w {
	case api.WhPut, api.WhPush:
		return api.ErrFull
	case api.WhLock:
		return api.ErrBusy
	}
	return api.ErrEmpty
}
