package images

import (
	"strconv"
	"strings"

	"timekeeper/api"
	"timekeeper/instrs"
)

const (
	lineEnd   = "\n"
	blank     = " "
	remark    = "#" // an idle line begins with it
	hexDigits = "0123456789abcdef"
	sizeBits  = 31 // of the greatest number that a line may tell
)

// isIdle tells whether a line says nothing of the image.
func isIdle(line string) bool { return line == "" || strings.HasPrefix(line, remark) }

// lineReader answers what reads one line more of an image; that answers false, if the line is none.
func lineReader(m *api.Image) func(line string) bool {
	byWord := readers(m)
	return func(line string) bool {
		word, rest, _ := strings.Cut(line, blank)
		if reads, ok := byWord[word]; ok {
			return reads(rest)
		}
		// All other words are instructions' own, which instrs alone knows.
		x, e := instrs.Parse(line)
		if e != api.OK {
			return false
		}
		m.Code = append(m.Code, x)
		return true
	}
}

// readers of what stands behind a line's first word, by that word. Nothing at all is neither a number nor bytes: that a blank is missing needs no case of its own.
func readers(m *api.Image) map[string]func(rest string) bool {
	isSized := false // Size may be told as 0, too, so that the image can't tell this
	return map[string]func(rest string) bool{
		"size": func(rest string) bool {
			n, ok := decimal(rest)
			if !ok || isSized {
				return false
			}
			m.Size, isSized = n, true
			return true
		},
		"data": func(rest string) bool {
			data, ok := appendHex(m.Data, rest)
			if !ok {
				return false
			}
			m.Data = data
			return true
		},
	}
}

// decimal takes a number only if it is written as strconv writes it: without a sign or a needless 0.
func decimal(digits string) (int, bool) {
	n, err := strconv.ParseUint(digits, 10, sizeBits)
	if err != nil || strconv.FormatUint(n, 10) != digits {
		return 0, false
	}
	return int(n), true
}

// appendHex puts the bytes of digits, two for each, behind others; false, if there is none, or a digit is missing or is none.
func appendHex(b []byte, digits string) ([]byte, bool) {
	if digits == "" || len(digits)%2 != 0 {
		return nil, false
	}
	for i := 0; i < len(digits); i += 2 {
		high, low := strings.IndexByte(hexDigits, digits[i]), strings.IndexByte(hexDigits, digits[i+1])
		if high < 0 || low < 0 {
			return nil, false
		}
		b = append(b, byte(high<<4|low))
	}
	return b, true
}
