// Package words is layer 1: numbers of 32 bits. See doc/01-words.md.
package words

// half is where numbers of 32 bits turn: from there on one lies nearer going back than going on.
const half = 1 << 31

// unsigned are the numbers from 0 on that have fewer bits than int64, so that it has room for all of them, with a sign or without.
type unsigned interface {
	~uint8 | ~uint16 | ~uint32
}

// Signed: a number of 32 bits as one that may be below 0. (P1.1)
func Signed(a uint32) int64 { return withSign(a) }

// withSign takes where to turn from the type alone, so that it holds for every width.
func withSign[U unsigned](a U) int64 {
	greatest := ^U(0)
	if a > greatest/2 {
		return int64(a) - int64(greatest) - 1
	}
	return int64(a)
}

// Of: the lowest 32 bits of a number. (P1.1)
func Of(n int64) uint32 { return uint32(n) }

// Since: how many ticks there are from one to another one, going round. (P1.2)
func Since(from, to uint32) uint32 { return to - from }

// Past: is a tick there, or past, where another one is now? (P1.3)
func Past(at, now uint32) bool { return Since(at, now) < half }
