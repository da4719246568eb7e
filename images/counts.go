package images

import "timekeeper/api"

const (
	mark       = "tk1" // what an image's bytes begin with
	countBytes = 2
	headBytes  = len(mark) + 3*countBytes
	instrBytes = 4
)

// counts of an image: the numbers that its bytes tell ahead of the rest.
type counts struct {
	size, data, code int
}

func countsOf(m api.Image) counts {
	return counts{size: m.Size, data: len(m.Data), code: len(m.Code)}
}

// mayBe tells whether an image may have these counts; what its instructions are is not asked.
func (c counts) mayBe() bool {
	return c.size >= 0 && c.size <= api.MaxRegion && c.data <= c.size && c.code <= api.MaxCode
}

// allBytes of an image with these counts.
func (c counts) allBytes() int { return headBytes + c.data + c.code*instrBytes }

func (c counts) appendTo(b []byte) []byte {
	for _, n := range [...]int{c.size, c.data, c.code} {
		b = append(b, byte(n>>8), byte(n))
	}
	return b
}

// readCounts are those at the beginning of an image's bytes; false, if no image's bytes begin so.
func readCounts(b []byte) (counts, bool) {
	if len(b) < headBytes || string(b[:len(mark)]) != mark {
		return counts{}, false
	}
	at := func(i int) int {
		place := len(mark) + i*countBytes
		return int(b[place])<<8 | int(b[place+1])
	}
	return counts{size: at(0), data: at(1), code: at(2)}, true
}
