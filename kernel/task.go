package kernel

import "timekeeper/api"

// forEver is what is left of a wait that has no end.
const forEver = -1

// task of a kernel.
type task struct {
	api.Task // as it is seen, but for Left
	place    int
	ran      int    // ticks, since it joined
	waitsFor *thing // none, if it sleeps, or does not wait
}

func (t *task) mayRun() bool { return t.State == api.StReady && !t.Held }

// findTask that a handle names.
func (k *Kernel) findTask(h uint32) (*task, api.Errno) {
	if !k.isThere() {
		return nil, api.ErrNil
	}
	return k.tasks.find(h)
}

// running is the task that runs; none: nil.
func (k *Kernel) running() *task {
	place, ok := k.mayRun.First()
	if !ok {
		return nil
	}
	return k.tasks.at[place]
}

// join makes one that may run the last one of its rank, wherever it stood.
func (k *Kernel) join(t *task) {
	if !t.mayRun() {
		return
	}
	k.mayRun.Remove(t.place)
	k.mayRun.Put(t.place, t.Rank)
	t.ran = 0
}

// rest: neither does it stand among those that may run, nor does it wait.
func (k *Kernel) rest(t *task) {
	k.mayRun.Remove(t.place)
	k.ends.Remove(t.place)
	if t.waitsFor != nil {
		t.waitsFor.waiters.Remove(t.place)
	}
	t.waitsFor, t.Waits = nil, api.Ask{}
}

// wait for a thing, or, where it is none, for time to go by.
func (k *Kernel) wait(t *task, x *thing, a api.Ask) {
	k.mayRun.Remove(t.place)
	t.State, t.Waits, t.waitsFor = api.StWaits, a, x
	if a.Wait > 0 {
		k.ends.Put(t.place, a.Wait)
	}
	if x != nil {
		x.waiters.Put(t.place, t.Rank)
	}
}

// answer a task, which waits no more.
func (k *Kernel) answer(t *task, e api.Errno, number uint32) {
	t.Answers++
	t.Last, t.Value = e, number
	if t.State == api.StWaits {
		k.rest(t)
		t.State = api.StReady
		k.join(t)
	}
}

// isOver answers a task whose wait ends by time alone.
func (k *Kernel) isOver(t *task) {
	defer k.tellRanks()
	if t.Waits.What == api.WhSleep {
		k.answer(t, api.OK, 0)
	} else {
		k.answer(t, api.ErrTimeout, 0)
	}
}

// end drops the handle ahead of letting go: who is no more is nobody's heir.
func (k *Kernel) end(t *task) {
	k.rest(t)
	k.tasks.drop(t.Handle)
	k.letGo(t.Handle)
}

// pass: a tick goes by for the task that runs.
func (k *Kernel) pass() {
	defer k.tellRanks()
	k.now++
	t := k.running()
	if t == nil {
		return
	}
	t.ran++
	if t.ran >= k.slice {
		k.join(t)
	}
}

// seenTask is a task as it is seen.
func (k *Kernel) seenTask(t *task) api.Task {
	told := t.Task
	if t.State == api.StWaits {
		told.Left = k.leftOf(t)
	}
	return told
}

func (k *Kernel) leftOf(t *task) int64 {
	left, e := k.ends.Left(t.place)
	if e != api.OK {
		return forEver
	}
	return left
}

// handlesOf tasks, by their places.
func (k *Kernel) handlesOf(places []int) []uint32 {
	var told []uint32
	for _, place := range places {
		told = append(told, k.tasks.at[place].Handle)
	}
	return told
}
