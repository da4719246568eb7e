package lines

import "math/bits"

// lineSet has a bit for each line, the line 0 being the lowest, as Calls and Masks tell them.
type lineSet uint8

func (s lineSet) with(line int) lineSet { return s | 1<<line }

func (s lineSet) without(line int) lineSet { return s &^ (1 << line) }

func (s lineSet) butFor(others lineSet) lineSet { return s &^ others }

func (s lineSet) least() (int, bool) {
	if s == 0 {
		return 0, false
	}
	return bits.TrailingZeros8(uint8(s)), true
}

// change is the one way by which bits change: whether a line is added or taken away is handed on to it.
func (s *lineSet) change(line int, how func(lineSet, int) lineSet) { *s = how(*s, line) }
