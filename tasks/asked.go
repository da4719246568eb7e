package tasks

import "timekeeper/api"

// kinds: so many there are, with KiNone, of which nothing is asked.
const kinds = int(api.KiAlarm) + 1

func mayWait(w api.What) bool {
	switch w {
	case api.WhSleep, api.WhTake, api.WhLock, api.WhPut, api.WhPush, api.WhGet, api.WhAwait, api.WhAlloc:
		return true
	}
	return false
}

// askedOfKinds: what may be asked of things, by their kind. All kinds share one row, so each piece's room ends with the piece: nothing can be put over what is asked of the next kind.
func askedOfKinds() [kinds][]api.What {
	row := [...]api.What{
		api.WhTake, api.WhGive,
		api.WhLock, api.WhUnlock,
		api.WhPut, api.WhPush, api.WhGet, api.WhPeek,
		api.WhAwait, api.WhRaise, api.WhLower,
		api.WhAlloc, api.WhFree,
		api.WhStart, api.WhStop,
	}
	return [kinds][]api.What{
		api.KiCount: row[0:2:2],
		api.KiLock:  row[2:4:4],
		api.KiRow:   row[4:8:8],
		api.KiFlags: row[8:11:11],
		api.KiPool:  row[11:13:13],
		api.KiAlarm: row[13:15:15],
	}
}
