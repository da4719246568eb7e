package tasks

import (
	"strconv"

	"timekeeper/api"
)

const (
	blank   = " "
	nothing = "-" // where a part has nothing to tell
	held    = "held"
)

var stateWords = [...]string{api.StReady: "ready", api.StWaits: "waits", api.StFault: "fault"}

// number: the kinds of numbers that a task is made of.
type number interface {
	~int | ~int64 | ~uint8 | ~uint32
}

func isWithin[N number](n, least, most N) bool { return least <= n && n <= most }

// digits of a number: all kinds of numbers fit into 64 bits with a sign.
func digits[N number](n N) string { return strconv.FormatInt(int64(n), 10) }

// isStateRight: is the state one, and does the task wait for something if it waits, and for nothing else?
func isStateRight(t api.Task) bool {
	switch t.State {
	case api.StWaits:
		return Blocks(t.Waits) && t.Waits.Wait <= api.MaxWait && isLeft(t.Left, t.Waits.Wait)
	case api.StReady, api.StFault:
		return t.Waits == api.Ask{} && t.Left == 0
	}
	return false
}

// isLeft: may so many ticks be left of a wait?
func isLeft(left, wait int64) bool {
	if wait < 0 {
		return left < 0
	}
	return isWithin(left, 1, wait)
}

func heldWord(isHeld bool) string {
	if isHeld {
		return held
	}
	return nothing
}

// waitParts leave out Wait: Left tells as much as is to be seen of it.
func waitParts(t api.Task) []string {
	if t.State != api.StWaits {
		return []string{nothing}
	}
	w := t.Waits
	return []string{digits(w.What), digits(w.H), digits(w.V), digits(w.M), digits(t.Left)}
}
