package instrs

import (
	"strconv"
	"strings"

	"timekeeper/api"
)

const (
	blank      = " "
	fieldBytes = 3              // A, B, C
	mostParts  = 1 + fieldBytes // a word, and at most a field a byte
	lastReg    = 7
)

// kind is what a field is.
type kind uint8

const (
	nothing kind = iota
	register
	number // of one byte
	signed // of one byte, from -128 on
	wide   // a number of two bytes
	asked  // one of api.What but WhNone
)

// form is how an Op is written: its word, and what its bytes are, from A on. Bytes that no field fills are 0.
type form struct {
	word   string
	fields [fieldBytes]kind
}

var forms = [...]form{
	api.OpNop:   {word: "nop"},
	api.OpSet:   {"set", [fieldBytes]kind{register, wide}},
	api.OpMove:  {"move", [fieldBytes]kind{register, register}},
	api.OpAdd:   {"add", [fieldBytes]kind{register, register, register}},
	api.OpSub:   {"sub", [fieldBytes]kind{register, register, register}},
	api.OpMul:   {"mul", [fieldBytes]kind{register, register, register}},
	api.OpAnd:   {"and", [fieldBytes]kind{register, register, register}},
	api.OpOr:    {"or", [fieldBytes]kind{register, register, register}},
	api.OpXor:   {"xor", [fieldBytes]kind{register, register, register}},
	api.OpLeft:  {"left", [fieldBytes]kind{register, register, register}},
	api.OpRight: {"right", [fieldBytes]kind{register, register, register}},
	api.OpLoad:  {"load", [fieldBytes]kind{register, register, number}},
	api.OpStore: {"store", [fieldBytes]kind{register, register, number}},
	api.OpByte:  {"byte", [fieldBytes]kind{register, register, number}},
	api.OpPut:   {"put", [fieldBytes]kind{register, register, number}},
	api.OpSame:  {"same", [fieldBytes]kind{register, register, signed}},
	api.OpOther: {"other", [fieldBytes]kind{register, register, signed}},
	api.OpLess:  {"less", [fieldBytes]kind{register, register, signed}},
	api.OpBelow: {"below", [fieldBytes]kind{register, register, signed}},
	api.OpGo:    {"go", [fieldBytes]kind{wide}},
	api.OpTell:  {"tell", [fieldBytes]kind{register}},
	api.OpAsk:   {"ask", [fieldBytes]kind{asked}},
	api.OpEnd:   {word: "end"},
}

// kinds are those of the fields that the form has.
func (f form) kinds() []kind {
	for i, k := range f.fields {
		if k == nothing {
			return f.fields[:i]
		}
	}
	return f.fields[:]
}

func opOf(word string) (api.Op, bool) {
	for op, f := range forms {
		if f.word == word {
			return api.Op(op), true
		}
	}
	return 0, false
}

// handling is what is done with a field.
type handling struct {
	size  int                                            // bytes that it fills
	write func(bytes []byte) (string, bool)              // false, if these bytes may not be
	read  func(bytes []byte, text string) ([]byte, bool) // bytes with the field's own behind them; false, if none is written so
}

// allHandlings: by a field's kind.
func allHandlings() map[kind]handling {
	return map[kind]handling{
		register: between("r", 1, 0, lastReg),
		number:   between("", 1, 0, 255),
		signed:   between("", 1, -128, 127),
		wide:     between("", 2, 0, 65535),
		asked:    between("", 1, int(api.WhNone)+1, int(api.WhEnd)),
	}
}

// between handles a field of so many bytes, the higher one first, that has a mark ahead and is a number from least to most.
func between(mark string, size, least, most int) handling {
	may := func(n int) bool { return least <= n && n <= most }
	write := func(bytes []byte) (string, bool) {
		n := joined(bytes)
		if n > most {
			n -= 1 << (8 * size) // above the most it can only be one below 0
		}
		return mark + strconv.Itoa(n), may(n)
	}
	read := func(bytes []byte, text string) ([]byte, bool) {
		digits, marked := strings.CutPrefix(text, mark)
		n, ok := decimal(digits)
		if !marked || !ok || !may(n) {
			return nil, false
		}
		return appendParted(bytes, n, size), true
	}
	return handling{size, write, read}
}

func joined(bytes []byte) int {
	n := 0
	for _, b := range bytes {
		n = n<<8 | int(b)
	}
	return n
}

func appendParted(bytes []byte, n, size int) []byte {
	for i := size - 1; i >= 0; i-- {
		bytes = append(bytes, byte(n>>(8*i)))
	}
	return bytes
}

// decimal takes a number only if it is written as strconv.Itoa writes it: no plus, no needless 0, no hyphen ahead of 0.
func decimal(digits string) (int, bool) {
	n, err := strconv.Atoi(digits)
	return n, err == nil && strconv.Itoa(n) == digits
}
