package objects

import (
	"timekeeper/api"
	"timekeeper/pools"
	"timekeeper/queues"
)

// part is what a thing has of its kind alone.
type part interface {
	// try does what somebody asks; what does not fit the kind was turned away ahead of it.
	try(who uint32, a api.Ask) (uint32, api.Errno)
}

type semaphore struct{ many, most uint32 }

type mutex struct{ owner uint32 }

type row struct{ messages *queues.Queue }

type flags struct{ up uint32 }

type pool struct{ blocks *pools.Pool }

// alarm has nothing to be tried: who starts and stops it keeps when it comes.
type alarm struct{}

// partOf is what a thing is made with; nil, if it may not be made of that.
func partOf(m api.Make) part {
	switch m.Kind {
	case api.KiCount:
		if m.A <= m.B && m.B >= 1 && m.B <= api.MaxCount {
			return &semaphore{many: m.A, most: m.B}
		}
	case api.KiLock:
		if m.A == 0 && m.B == 0 {
			return &mutex{owner: nobody}
		}
	case api.KiRow:
		if messages, e := queues.New(int(m.A)); e == api.OK && m.B == 0 {
			return &row{messages}
		}
	case api.KiFlags:
		if m.B == 0 {
			return &flags{up: m.A}
		}
	case api.KiPool:
		if blocks, e := pools.New(int(m.A), int(m.B)); e == api.OK {
			return &pool{blocks}
		}
	case api.KiAlarm:
		if m.A != 0 {
			return &alarm{}
		}
	}
	return nil
}

// takeBack takes from somebody what they have; whether they had something. Of the other kinds nothing is anybody's.
func takeBack(of part, who uint32) bool {
	switch it := of.(type) {
	case *mutex:
		if it.owner != who {
			return false
		}
		it.owner = nobody
		return true
	case *pool:
		return it.blocks.All(who) > 0
	}
	return false
}

// seen is what there is to see of a kind alone.
func seen(of part) api.Thing {
	switch it := of.(type) {
	case *semaphore:
		return api.Thing{Count: it.many}
	case *mutex:
		return api.Thing{Owner: it.owner}
	case *row:
		return api.Thing{Row: it.messages.List()}
	case *flags:
		return api.Thing{Count: it.up}
	case *pool:
		return api.Thing{Count: uint32(it.blocks.Left()), Owners: it.blocks.Owners()}
	}
	return api.Thing{}
}
