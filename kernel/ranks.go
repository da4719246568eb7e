package kernel

import (
	"timekeeper/api"
	"timekeeper/heirs"
)

// nobody stands where a task waits for none, or nobody has a thing.
const nobody = -1

// tellRanks anew: who has a mutex has the rank of those that wait for it, as well.
func (k *Kernel) tellRanks() {
	ranks, _ := heirs.Ranks(k.bases(), k.awaited()) // never refused: bases are ranks, and nobody waits for themselves
	for place, rank := range ranks {
		t := k.tasks.at[place]
		if t != nil && t.State != api.StFault && t.Rank != rank {
			k.turnRank(t, rank)
		}
	}
}

func (k *Kernel) turnRank(t *task, rank int) {
	t.Rank = rank
	k.join(t)
	if t.waitsFor != nil {
		t.waitsFor.waiters.Change(t.place, rank)
	}
}

// bases of all places; a place that is free lends as little as a task at fault.
func (k *Kernel) bases() []int {
	told := make([]int, len(k.tasks.at))
	for t := range k.tasks.all() {
		if t.State != api.StFault {
			told[t.place] = t.Base
		}
	}
	return told
}

// awaited is for whom each one waits, by places.
func (k *Kernel) awaited() []int {
	told := make([]int, len(k.tasks.at))
	for place, t := range k.tasks.at {
		told[place] = nobody
		if t != nil && t.waitsFor != nil {
			told[place] = k.ownerOf(t.waitsFor)
		}
	}
	return told
}

// ownerOf a mutex; nobody has a thing of another kind.
func (k *Kernel) ownerOf(x *thing) int {
	if t, e := k.tasks.find(x.object.See().Owner); e == api.OK {
		return t.place
	}
	return nobody
}
