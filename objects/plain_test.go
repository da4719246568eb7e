package objects

import (
	"slices"

	"timekeeper/api"
)

// plain is a plain reading of the chapter: one struct for all kinds, flags as bools, a row and owners as lists.
type plain struct {
	made   api.Make
	many   uint32
	owner  uint32
	row    []uint32
	up     [32]bool
	owners []uint32
}

// mayBe is a plain reading of the section 'Words'.
func mayBe(m api.Make) bool {
	switch m.Kind {
	case 1:
		return m.A <= m.B && 1 <= m.B && m.B <= 1073741824
	case 2:
		return m.A == 0 && m.B == 0
	case 3:
		return 1 <= m.A && m.A <= 64 && m.B == 0
	case 4:
		return m.B == 0
	case 5:
		return 1 <= m.A && m.A <= 64 && 1 <= m.B && m.B <= 256
	case 6:
		return m.A != 0
	}
	return false
}

// asked is what may be tried of things of that kind: of an alarm nothing.
func asked(k api.Kind) []api.What {
	switch k {
	case api.KiCount:
		return []api.What{api.WhTake, api.WhGive}
	case api.KiLock:
		return []api.What{api.WhLock, api.WhUnlock}
	case api.KiRow:
		return []api.What{api.WhPut, api.WhPush, api.WhGet, api.WhPeek}
	case api.KiFlags:
		return []api.What{api.WhAwait, api.WhRaise, api.WhLower}
	case api.KiPool:
		return []api.What{api.WhAlloc, api.WhFree}
	}
	return nil
}

func bitsOf(n uint32) (told [32]bool) {
	for i := range told {
		told[i] = n>>i&1 == 1
	}
	return told
}

func numberOf(bits [32]bool) uint32 {
	told := uint32(0)
	for i, is := range bits {
		if is {
			told += 1 << i
		}
	}
	return told
}

func plainOf(m api.Make) *plain {
	p := &plain{made: m}
	switch m.Kind {
	case api.KiCount:
		p.many = m.A
	case api.KiFlags:
		p.up = bitsOf(m.A)
	case api.KiPool:
		p.owners = make([]uint32, m.A)
	}
	return p
}

// try is a plain reading of P18.2.
func (p *plain) try(who uint32, a api.Ask) (uint32, api.Errno) {
	if who == 0 || !slices.Contains(asked(p.made.Kind), a.What) || a.What == api.WhAwait && a.M > 3 {
		return 0, api.ErrArg
	}
	switch p.made.Kind {
	case api.KiCount:
		return 0, p.count(a)
	case api.KiLock:
		return 0, p.lock(who, a)
	case api.KiRow:
		return p.message(a)
	case api.KiFlags:
		return p.flag(a)
	}
	return p.block(who, a)
}

func (p *plain) count(a api.Ask) api.Errno {
	switch {
	case a.What == api.WhTake && p.many == 0:
		return api.ErrState
	case a.What == api.WhTake:
		p.many--
	case p.many == p.made.B:
		return api.ErrFull
	default:
		p.many++
	}
	return api.OK
}

func (p *plain) lock(who uint32, a api.Ask) api.Errno {
	switch {
	case a.What == api.WhLock && p.owner == who:
		return api.ErrOwner
	case a.What == api.WhLock && p.owner != 0:
		return api.ErrState
	case a.What == api.WhLock:
		p.owner = who
	case p.owner != who:
		return api.ErrOwner
	default:
		p.owner = 0
	}
	return api.OK
}

func (p *plain) message(a api.Ask) (uint32, api.Errno) {
	puts := a.What == api.WhPut || a.What == api.WhPush
	switch {
	case puts && len(p.row) == int(p.made.A):
		return 0, api.ErrState
	case a.What == api.WhPut:
		p.row = slices.Concat(p.row, []uint32{a.V})
	case a.What == api.WhPush:
		p.row = slices.Concat([]uint32{a.V}, p.row)
	case len(p.row) == 0 && a.What == api.WhGet:
		return 0, api.ErrState
	case len(p.row) == 0:
		return 0, api.ErrEmpty
	case a.What == api.WhPeek:
		return p.row[0], api.OK
	default:
		first := p.row[0]
		p.row = slices.Clone(p.row[1:])
		return first, api.OK
	}
	return 0, api.OK
}

func (p *plain) flag(a api.Ask) (uint32, api.Errno) {
	want := bitsOf(a.V)
	if a.What == api.WhAwait {
		return p.await(want, a.M == 1 || a.M == 3, a.M == 2 || a.M == 3)
	}
	for i := range want {
		if want[i] {
			p.up[i] = a.What == api.WhRaise
		}
	}
	return numberOf(p.up), api.OK
}

func (p *plain) await(want [32]bool, all, gone bool) (uint32, api.Errno) {
	var met [32]bool
	some, missing := false, false
	for i := range want {
		met[i] = want[i] && p.up[i]
		some = some || met[i]
		missing = missing || want[i] && !p.up[i]
	}
	if all && missing || !all && !some {
		return 0, api.ErrState
	}
	for i := range want {
		if gone && want[i] {
			p.up[i] = false
		}
	}
	return numberOf(met), api.OK
}

func (p *plain) block(who uint32, a api.Ask) (uint32, api.Errno) {
	if a.What == api.WhAlloc {
		for block, owner := range p.owners {
			if owner == 0 {
				p.owners[block] = who
				return uint32(block), api.OK
			}
		}
		return 0, api.ErrState
	}
	if uint64(a.V) >= uint64(len(p.owners)) {
		return 0, api.ErrArg
	}
	if p.owners[a.V] != who {
		return 0, api.ErrOwner
	}
	p.owners[a.V] = 0
	return 0, api.OK
}

// leave is a plain reading of P18.3.
func (p *plain) leave(who uint32) bool {
	had := false
	if who != 0 && p.owner == who {
		p.owner, had = 0, true
	}
	for block, owner := range p.owners {
		if who != 0 && owner == who {
			p.owners[block], had = 0, true
		}
	}
	return had
}

// see is a plain reading of P18.4.
func (p *plain) see() api.Thing {
	told := api.Thing{Make: p.made, Owner: p.owner, Row: slices.Clone(p.row), Owners: slices.Clone(p.owners)}
	switch p.made.Kind {
	case api.KiCount:
		told.Count = p.many
	case api.KiFlags:
		told.Count = numberOf(p.up)
	case api.KiPool:
		for _, owner := range p.owners {
			if owner == 0 {
				told.Count++
			}
		}
	}
	return told
}
