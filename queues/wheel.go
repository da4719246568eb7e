package queues

import "timekeeper/api"

// wheel is a row within an array that is gone round: the slot behind the last one is the first one. Whoever calls it sees to it that what is added has room and that what is asked for is there.
type wheel struct {
	slots [api.MaxRow]uint32
	first int // the slot of the first one
	many  int // that there are
}

// slot in which a place of the row stands.
func (w *wheel) slot(place int) int { return (w.first + place) % len(w.slots) }

// at a place of the row.
func (w *wheel) at(place int) uint32 { return w.slots[w.slot(place)] }

func (w *wheel) addLast(v uint32) {
	w.slots[w.slot(w.many)] = v
	w.many++
}

func (w *wheel) addFirst(v uint32) {
	w.first = w.slot(len(w.slots) - 1) // one back, going round
	w.slots[w.first] = v
	w.many++
}

func (w *wheel) dropFirst() {
	w.first = w.slot(1)
	w.many--
}

// all of the row, in memory of their own.
func (w *wheel) all() []uint32 {
	told := make([]uint32, w.many)
	for place := range told {
		told[place] = w.at(place)
	}
	return told
}
