package objects

import (
	"timekeeper/api"
	"timekeeper/masks"
)

// Bits of M of WhAwait: what is wanted of the flags.
const (
	wantsAll  = 1 << iota // any will do without it
	wantsGone             // they stay without it
	wantsMore             // from here on no bit means anything
)

func (s *semaphore) try(_ uint32, a api.Ask) (uint32, api.Errno) {
	switch a.What {
	case api.WhTake:
		if s.many == 0 {
			return 0, api.ErrState
		}
		s.many--
		return 0, api.OK
	case api.WhGive:
		if s.many == s.most {
			return 0, api.ErrFull
		}
		s.many++
		return 0, api.OK
	}
	return 0, api.ErrArg
}

func (m *mutex) try(who uint32, a api.Ask) (uint32, api.Errno) {
	switch a.What {
	case api.WhLock:
		if m.owner == who {
			return 0, api.ErrOwner
		}
		if m.owner != nobody {
			return 0, api.ErrState
		}
		m.owner = who
		return 0, api.OK
	case api.WhUnlock:
		if m.owner != who {
			return 0, api.ErrOwner
		}
		m.owner = nobody
		return 0, api.OK
	}
	return 0, api.ErrArg
}

func (r *row) try(_ uint32, a api.Ask) (uint32, api.Errno) {
	switch a.What {
	case api.WhPut:
		return 0, notYet(r.messages.Put(a.V))
	case api.WhPush:
		return 0, notYet(r.messages.Push(a.V))
	case api.WhGet:
		v, e := r.messages.Take()
		return v, notYet(e)
	case api.WhPeek: // nobody waits to look: it answers ErrEmpty itself
		return r.messages.Peek()
	}
	return 0, api.ErrArg
}

func (f *flags) try(_ uint32, a api.Ask) (uint32, api.Errno) {
	switch a.What {
	case api.WhAwait:
		return f.await(a.V, a.M)
	case api.WhRaise:
		f.up |= a.V
		return f.up, api.OK
	case api.WhLower:
		f.up &^= a.V
		return f.up, api.OK
	}
	return 0, api.ErrArg
}

// await tells which of the flags that are wanted are there, if that suffices.
func (f *flags) await(want, how uint32) (uint32, api.Errno) {
	if how >= wantsMore {
		return 0, api.ErrArg
	}
	all, gone := how&wantsAll != 0, how&wantsGone != 0
	if !masks.Holds(f.up, want, all) {
		return 0, api.ErrState
	}
	met := masks.Met(f.up, want)
	f.up = masks.After(f.up, want, all, gone)
	return met, api.OK
}

func (p *pool) try(who uint32, a api.Ask) (uint32, api.Errno) {
	switch a.What {
	case api.WhAlloc:
		block, e := p.blocks.Alloc(who)
		return uint32(block), notYet(e)
	case api.WhFree:
		return 0, p.blocks.Free(who, int(a.V))
	}
	return 0, api.ErrArg
}

func (*alarm) try(uint32, api.Ask) (uint32, api.Errno) { return 0, api.ErrArg }

// notYet is what it means to who asks that there is no room, or nothing there: that may turn, and they may wait for it.
func notYet(e api.Errno) api.Errno {
	if e == api.ErrFull || e == api.ErrEmpty {
		return api.ErrState
	}
	return e
}
