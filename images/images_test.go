package images

import (
	"encoding/hex"
	"fmt"
	"math"
	"regexp"
	"slices"
	"strconv"
	"strings"
	"testing"

	"timekeeper/api"
	"timekeeper/instrs"
)

var (
	sizeLine = regexp.MustCompile(`^size (0|[1-9][0-9]*)$`)
	dataLine = regexp.MustCompile(`^data ((?:[0-9a-f][0-9a-f])+)$`)
)

// next of a row of numbers that looks like chance.
func next(n uint32) uint32 { return n*1664525 + 1013904223 }

// dice answer numbers below a bound, the same ones in each run.
type dice struct{ n uint32 }

func (d *dice) below(most int) int {
	d.n = next(d.n)
	return int(d.n>>8) % most
}

// allInstrs: of each Op some that may be, the edges of its fields among them.
func allInstrs(t *testing.T) []api.Instr {
	t.Helper()
	edges := []uint8{0, 1, 7, 20, 127, 128, 255}
	var told []api.Instr
	for op := api.OpNop; op <= api.OpEnd; op++ {
		before := len(told)
		for _, a := range edges {
			for _, b := range edges {
				for _, c := range edges {
					if x := (api.Instr{Op: op, A: a, B: b, C: c}); instrs.Check(x) {
						told = append(told, x)
					}
				}
			}
		}
		if len(told) == before {
			t.Fatalf("no instruction of Op %d", op)
		}
	}
	return told
}

// badInstrs may not be.
func badInstrs() []api.Instr {
	return []api.Instr{
		{Op: api.OpEnd + 1}, {Op: 200}, {Op: 255, A: 255, B: 255, C: 255},
		{Op: api.OpNop, C: 1}, {Op: api.OpEnd, A: 1}, {Op: api.OpSet, A: 8}, {Op: api.OpAdd, C: 8},
		{Op: api.OpGo, C: 1}, {Op: api.OpAsk}, {Op: api.OpAsk, A: uint8(api.WhEnd) + 1},
	}
}

// someBytes: so many, that differ.
func someBytes(many int) []byte {
	b := make([]byte, many)
	for i := range b {
		b[i] = byte(i*7 + i/256 + 1)
	}
	return b
}

// someCode: so many instructions, that differ.
func someCode(t *testing.T, many int) []api.Instr {
	t.Helper()
	all := allInstrs(t)
	code := make([]api.Instr, many)
	for i := range code {
		code[i] = all[i*37%len(all)]
	}
	return code
}

func greatest(t *testing.T) api.Image {
	t.Helper()
	return api.Image{Size: api.MaxRegion, Data: someBytes(api.MaxRegion), Code: someCode(t, api.MaxCode)}
}

// manyImages that may be: empty, greatest, and in between.
func manyImages(t *testing.T) []api.Image {
	t.Helper()
	return []api.Image{
		{},
		{Data: []byte{}, Code: []api.Instr{}},
		{Size: 1},
		{Size: api.MaxRegion},
		{Size: 1, Data: []byte{255}},
		{Size: 3, Data: []byte{0, 10, 32}},
		{Size: 255, Data: someBytes(255)},
		{Size: 256, Data: someBytes(255)},
		{Size: 256, Data: someBytes(256)},
		{Size: 257, Data: someBytes(257)},
		{Size: api.MaxRegion, Data: someBytes(api.MaxRegion)},
		{Code: []api.Instr{{}}},
		{Code: []api.Instr{{Op: api.OpEnd}, {}, {Op: api.OpAsk, A: 20}}},
		{Code: someCode(t, 255)},
		{Code: someCode(t, 256)},
		{Code: someCode(t, 257)},
		{Code: someCode(t, api.MaxCode)},
		{Code: allInstrs(t)[:200]},
		{Size: 770, Data: someBytes(258), Code: someCode(t, 515)},
		greatest(t),
	}
}

// badImages may not be.
func badImages(t *testing.T) []api.Image {
	t.Helper()
	bad := []api.Image{
		{Size: -1}, {Size: api.MaxRegion + 1}, {Size: -api.MaxRegion}, {Size: math.MinInt}, {Size: math.MaxInt},
		{Size: 1 << 16}, {Size: 1<<16 + 8}, {Size: math.MaxInt32}, {Size: math.MinInt32},
		{Size: -1, Data: []byte{1}},
		{Data: []byte{1}}, {Size: 1, Data: []byte{1, 2}}, {Size: 255, Data: someBytes(256)},
		{Size: api.MaxRegion - 1, Data: someBytes(api.MaxRegion)},
		{Size: api.MaxRegion, Data: someBytes(api.MaxRegion + 1)},
		{Size: api.MaxRegion + 1, Data: someBytes(api.MaxRegion + 1)},
		{Size: 4, Data: someBytes(1<<16 + 2)},
		{Code: someCode(t, api.MaxCode+1)}, {Code: make([]api.Instr, 1<<16)}, {Code: make([]api.Instr, 1<<16+1)},
		{Size: 8, Data: someBytes(8), Code: someCode(t, api.MaxCode+1)},
	}
	for _, x := range badInstrs() {
		bad = append(bad, api.Image{Code: []api.Instr{x}}, api.Image{Size: 8, Data: someBytes(8), Code: []api.Instr{{}, x, {}}})
	}
	return bad
}

func isSame(a, b api.Image) bool {
	return a.Size == b.Size && slices.Equal(a.Data, b.Data) && slices.Equal(a.Code, b.Code)
}

func isEmpty(m api.Image) bool { return isSame(m, api.Image{}) }

// told of an image, short enough for a failure's text.
func told(m api.Image) string {
	s := fmt.Sprintf("size %d, %d bytes, %d instructions", m.Size, len(m.Data), len(m.Code))
	if len(m.Data)+len(m.Code) < 30 {
		s += fmt.Sprintf(": %v %v", m.Data, m.Code)
	}
	return s
}

func clone(m api.Image) api.Image {
	return api.Image{Size: m.Size, Data: slices.Clone(m.Data), Code: slices.Clone(m.Code)}
}

// plainMay: the chapter's first sentence, word by word.
func plainMay(m api.Image) bool {
	may := m.Size >= 0 && m.Size <= 4096 && len(m.Data) <= m.Size && len(m.Code) <= 1024
	for _, x := range m.Code {
		may = may && instrs.Check(x)
	}
	return may
}

// plainBytes of an image: the chapter's second sentence, word by word.
func plainBytes(m api.Image) []byte {
	b := []byte{'t', 'k', '1'}
	for _, n := range []int{m.Size, len(m.Data), len(m.Code)} {
		b = append(b, byte(n/256), byte(n%256))
	}
	b = slices.Concat(b, m.Data)
	for _, x := range m.Code {
		b = append(b, byte(x.Op), x.A, x.B, x.C)
	}
	return b
}

// plainGet looks what image the bytes tell of, and whether its bytes are these.
func plainGet(b []byte) (api.Image, api.Errno) {
	if len(b) < 9 {
		return api.Image{}, api.ErrForm
	}
	number := func(i int) int { return int(b[i])*256 + int(b[i+1]) }
	m, rest := api.Image{Size: number(3)}, b[9:]
	for i := 0; i < number(5) && i < len(rest); i++ {
		m.Data = append(m.Data, rest[i])
	}
	rest = rest[len(m.Data):]
	for i := 0; i < number(7) && i*4+4 <= len(rest); i++ {
		four := rest[i*4:]
		m.Code = append(m.Code, api.Instr{Op: api.Op(four[0]), A: four[1], B: four[2], C: four[3]})
	}
	if !plainMay(m) || !slices.Equal(plainBytes(m), b) {
		return api.Image{}, api.ErrForm
	}
	return m, api.OK
}

// plainLines of a text.
func plainLines(s string) []string {
	all := strings.Split(s, "\n")
	if all[len(all)-1] == "" {
		all = all[:len(all)-1]
	}
	return all
}

// plainParse: P13.3, word by word.
func plainParse(s string) (api.Image, int, api.Errno) {
	var m api.Image
	sizes := 0
	for i, line := range plainLines(s) {
		size, data := sizeLine.FindStringSubmatch(line), dataLine.FindStringSubmatch(line)
		x, e := instrs.Parse(line)
		switch {
		case line == "" || line[0] == '#':
		case size != nil:
			n, err := strconv.ParseFloat(size[1], 64)
			sizes++
			if err != nil || n > 2147483647 || sizes > 1 {
				return api.Image{}, i, api.ErrForm
			}
			m.Size = int(n)
		case data != nil:
			b, _ := hex.DecodeString(data[1])
			m.Data = append(m.Data, b...)
		case e == api.OK:
			m.Code = append(m.Code, x)
		default:
			return api.Image{}, i, api.ErrForm
		}
	}
	if !plainMay(m) {
		return api.Image{}, 0, api.ErrArg
	}
	return m, 0, api.OK
}

// reads holds Parse of a text against an image.
func reads(t *testing.T, s string, want api.Image) {
	t.Helper()
	m, line, e := Parse(s)
	if !isSame(m, want) || line != 0 || e != api.OK {
		t.Errorf("Parse(%.200q) = %s; %d, %d, want %s", s, told(m), line, e, told(want))
	}
}

// isNone: Parse of a text answers ErrForm and this line.
func isNone(t *testing.T, s string, want int) {
	t.Helper()
	if m, line, e := Parse(s); !isEmpty(m) || line != want || e != api.ErrForm {
		t.Errorf("Parse(%.200q) = %s; %d, %d, want line %d, ErrForm", s, told(m), line, e, want)
	}
}

// mayNot: Parse of a text answers ErrArg and 0.
func mayNot(t *testing.T, s string) {
	t.Helper()
	if m, line, e := Parse(s); !isEmpty(m) || line != 0 || e != api.ErrArg {
		t.Errorf("Parse(%.200q) = %s; %d, %d, want 0, ErrArg", s, told(m), line, e)
	}
}

// noBytes: Get of bytes answers ErrForm, and nothing else.
func noBytes(t *testing.T, b []byte) {
	t.Helper()
	if m, e := Get(b); !isEmpty(m) || e != api.ErrForm {
		t.Errorf("Get(%.40v) of %d bytes = %s; %d, want ErrForm", b, len(b), told(m), e)
	}
}

func put(t *testing.T, m api.Image) []byte {
	t.Helper()
	b, e := Put(m)
	if e != api.OK {
		t.Fatalf("Put(%s): %d", told(m), e)
	}
	return b
}

func got(t *testing.T, b []byte) api.Image {
	t.Helper()
	m, e := Get(b)
	if e != api.OK {
		t.Fatalf("Get(%.40v): %d", b, e)
	}
	return m
}

func parsed(t *testing.T, s string) api.Image {
	t.Helper()
	m, line, e := Parse(s)
	if line != 0 || e != api.OK {
		t.Fatalf("Parse(%.200q): %d, %d", s, line, e)
	}
	return m
}

// spoil writes over a list, and over its spare room.
func spoil(m api.Image) {
	for i := range m.Data[:cap(m.Data)] {
		m.Data[:cap(m.Data)][i] ^= 0xa5
	}
	for i := range m.Code[:cap(m.Code)] {
		m.Code[:cap(m.Code)][i] = api.Instr{Op: 99, A: 98, B: 97, C: 96}
	}
}

func spoilBytes(b []byte) { spoil(api.Image{Data: b}) }

// roomy is an image of the same content, with spare room that is not empty.
func roomy(m api.Image) api.Image {
	data := append(slices.Clone(m.Data), 201, 202, 203, 204, 205, 206, 207, 208)
	code := append(slices.Clone(m.Code), api.Instr{Op: 77}, api.Instr{Op: 78}, api.Instr{Op: 79})
	return api.Image{Size: m.Size, Data: data[:len(m.Data)], Code: code[:len(m.Code)]}
}

// whole is all that a list's memory has, spare room too.
func whole(m api.Image) api.Image {
	return clone(api.Image{Size: m.Size, Data: m.Data[:cap(m.Data)], Code: m.Code[:cap(m.Code)]})
}

// rowsOf an image: its lines by kind, Data in pieces of so many bytes.
func rowsOf(t *testing.T, m api.Image, piece int) (size, data, code []string) {
	t.Helper()
	size = []string{"size " + strconv.Itoa(m.Size)}
	for b := range slices.Chunk(m.Data, piece) {
		data = append(data, "data "+hex.EncodeToString(b))
	}
	for _, x := range m.Code {
		s, e := instrs.Text(x)
		if e != api.OK {
			t.Fatal(x, e)
		}
		code = append(code, s)
	}
	return size, data, code
}

// textOf an image, as people could write it.
func textOf(t *testing.T, m api.Image, piece int) string {
	t.Helper()
	size, data, code := rowsOf(t, m, piece)
	return strings.Join(slices.Concat(size, data, code), "\n") + "\n"
}

// P13.1: Size alone, at its edges, and where only some of its bits would be.
func TestCheckSize(t *testing.T) {
	for n, want := range map[int]bool{
		-1: false, 0: true, 1: true, 255: true, 256: true, api.MaxRegion - 1: true, api.MaxRegion: true, api.MaxRegion + 1: false,
		-api.MaxRegion: false, 1 << 16: false, 1<<16 + 1: false, math.MaxInt32: false, math.MinInt32: false, math.MaxInt: false, math.MinInt: false,
	} {
		if got := Check(api.Image{Size: n}); got != want {
			t.Errorf("Check(Size %d) = %v", n, got)
		}
	}
}

// P13.1: Data of as many bytes as Size, of one less, of one more.
func TestCheckData(t *testing.T) {
	for _, n := range []int{0, 1, 2, 255, 256, 257, 4095, api.MaxRegion} {
		for more, want := range map[int]bool{-1: true, 0: true, 1: false} {
			if n+more < 0 {
				continue
			}
			if got := Check(api.Image{Size: n, Data: someBytes(n + more)}); got != want {
				t.Errorf("Check(Size %d, %d bytes) = %v", n, n+more, got)
			}
		}
	}
	if Check(api.Image{Size: -1, Data: []byte{}}) || !Check(api.Image{Data: []byte{}, Code: []api.Instr{}}) {
		t.Error("an empty list is as none")
	}
	if Check(api.Image{Size: api.MaxRegion + 1, Data: someBytes(api.MaxRegion + 1)}) {
		t.Error("Size is above the limit, whatever Data has")
	}
}

// P13.1: Code of MaxCode instructions and of one more; one that may not be, at each place.
func TestCheckCode(t *testing.T) {
	for many, want := range map[int]bool{0: true, 1: true, api.MaxCode - 1: true, api.MaxCode: true, api.MaxCode + 1: false, 2 * api.MaxCode: false, 1 << 16: false} {
		if got := Check(api.Image{Code: someCode(t, many)}); got != want {
			t.Errorf("Check(%d instructions) = %v", many, got)
		}
	}
	for _, x := range badInstrs() {
		for _, many := range []int{1, 2, 7, api.MaxCode} {
			for _, place := range []int{0, many / 2, many - 1} {
				m := api.Image{Code: someCode(t, many)}
				m.Code[place] = x
				if Check(m) {
					t.Errorf("Check with %v at %d of %d", x, place, many)
				}
			}
		}
	}
	for _, x := range allInstrs(t) {
		if !Check(api.Image{Code: []api.Instr{x}}) {
			t.Errorf("Check(%v)", x)
		}
	}
}

// P13.1: whole images.
func TestCheckImages(t *testing.T) {
	for _, m := range manyImages(t) {
		if !Check(m) {
			t.Errorf("Check(%s) = false", told(m))
		}
	}
	for _, m := range badImages(t) {
		if Check(m) {
			t.Errorf("Check(%s) = true", told(m))
		}
	}
}

// P13.2: of an image that may not be there are no bytes.
func TestPutRefuses(t *testing.T) {
	for _, m := range badImages(t) {
		if b, e := Put(m); len(b) != 0 || e != api.ErrArg {
			t.Errorf("Put(%s) = %d bytes, %d", told(m), len(b), e)
		}
	}
}

// P13.2: the bytes at each place, of an image in which no two counts have a byte in common.
func TestPutPlaces(t *testing.T) {
	m := api.Image{Size: 0x0a0b, Data: someBytes(0x0102), Code: someCode(t, 0x0304)}
	b := put(t, m)
	if want := "tk1\x0a\x0b\x01\x02\x03\x04"; string(b[:9]) != want {
		t.Errorf("the beginning is %q, want %q", b[:9], want)
	}
	if len(b) != 9+0x0102+4*0x0304 {
		t.Fatalf("%d bytes", len(b))
	}
	for i, d := range m.Data {
		if b[9+i] != d {
			t.Errorf("byte %d of Data is %d, want %d", i, b[9+i], d)
		}
	}
	for i, x := range m.Code {
		if four := [4]byte(b[9+0x0102+4*i:]); four != instrs.Put(x) {
			t.Errorf("instruction %d is %v, want %v", i, four, x)
		}
	}
}

// P13.2: an empty image, and the greatest one.
func TestPutEnds(t *testing.T) {
	for _, m := range []api.Image{{}, {Data: []byte{}, Code: []api.Instr{}}} {
		if b := put(t, m); string(b) != "tk1\x00\x00\x00\x00\x00\x00" {
			t.Errorf("Put(empty) = %q", b)
		}
	}
	b := put(t, greatest(t))
	if len(b) != 9+4096+4096 || string(b[:9]) != "tk1\x10\x00\x10\x00\x04\x00" {
		t.Errorf("the greatest one: %d bytes, %q", len(b), b[:9])
	}
}

// P13.2, P13.4: what is put is got, and is as the chapter tells.
func TestPutGet(t *testing.T) {
	for _, m := range manyImages(t) {
		b := put(t, m)
		if !slices.Equal(b, plainBytes(m)) {
			t.Errorf("Put(%s) = %.40v", told(m), b)
		}
		if n := got(t, b); !isSame(n, m) {
			t.Errorf("Get(Put(%s)) = %s", told(m), told(n))
		}
	}
}

// P13.2: bytes that are cut at each place, and ones with more behind them.
func TestGetLengths(t *testing.T) {
	for _, m := range manyImages(t) {
		b := put(t, m)
		for i := range b {
			noBytes(t, b[:i:i])
			noBytes(t, b[:i]) // the rest stands in the spare room
			noBytes(t, b[i+1:])
		}
		noBytes(t, append(slices.Clone(b), 0))
		noBytes(t, append(slices.Clone(b), 0, 0, 0, 0))
		noBytes(t, append([]byte{'t'}, b...))
		noBytes(t, slices.Concat(b, b))
		if t.Failed() {
			return
		}
	}
	noBytes(t, nil)
	noBytes(t, []byte{})
}

// P13.2: another beginning.
func TestGetMark(t *testing.T) {
	for _, m := range manyImages(t)[:14] {
		b := put(t, m)
		for _, s := range []string{"tk0", "tk2", "TK1", "Tk1", "tK1", "tk\x01", "k1t", "\x00\x00\x00", "tk ", " tk"} {
			noBytes(t, append([]byte(s), b[3:]...))
		}
		for i := range 3 {
			for n := range 256 {
				c := slices.Clone(b)
				if c[i] != byte(n) {
					c[i] = byte(n)
					noBytes(t, c)
				}
			}
		}
	}
}

// headed are bytes with these counts, and others behind them.
func headed(size, data, code int, rest []byte) []byte {
	b := []byte{'t', 'k', '1'}
	for _, n := range []int{size, data, code} {
		b = append(b, byte(n/256), byte(n%256))
	}
	return append(b, rest...)
}

// P13.2: counts that do not fit what stands behind them, or one another.
func TestGetCounts(t *testing.T) {
	bodies := []int{0, 1, 3, 4, 5, 8, 9, 255, 256, 1024, 1028, 4096, 4097, 65535, 65536}
	numbers := []int{0, 1, 2, 4, 8, 255, 256, 1024, 1025, 4096, 4097, 32768, 65535}
	for _, many := range bodies {
		rest := make([]byte, many)
		for _, size := range numbers {
			for _, data := range numbers {
				for _, code := range numbers {
					b := headed(size, data, code, rest)
					want, wantErr := api.Image{}, api.ErrForm
					if size <= 4096 && data <= size && code <= 1024 && data+4*code == many {
						want, wantErr = api.Image{Size: size, Data: make([]byte, data), Code: make([]api.Instr, code)}, api.OK
					}
					if m, e := Get(b); !isSame(m, want) || e != wantErr {
						t.Errorf("Get(%d %d %d, %d bytes) = %s; %d", size, data, code, many, told(m), e)
					}
				}
			}
		}
	}
}

// P13.2: a Size below how many bytes Data has, and the greatest Size.
func TestGetSize(t *testing.T) {
	for _, many := range []int{1, 2, 255, 256, 257, 4096} {
		noBytes(t, headed(many-1, many, 0, someBytes(many)))
		noBytes(t, headed(0, many, 0, someBytes(many)))
		if m := got(t, headed(many, many, 0, someBytes(many))); m.Size != many || !slices.Equal(m.Data, someBytes(many)) {
			t.Errorf("%d: %s", many, told(m))
		}
	}
	if m := got(t, headed(4096, 0, 0, nil)); m.Size != 4096 {
		t.Error(told(m))
	}
	noBytes(t, headed(4097, 0, 0, nil))
	noBytes(t, headed(65535, 0, 0, nil))
	noBytes(t, headed(4097, 4097, 0, someBytes(4097)))
	noBytes(t, headed(0, 0, 1025, make([]byte, 4*1025)))
}

// P13.2: an instruction that may not be, at each place.
func TestGetInstrs(t *testing.T) {
	for _, x := range badInstrs() {
		for _, many := range []int{1, 2, 5, api.MaxCode} {
			for _, place := range []int{0, many / 2, many - 1} {
				m := api.Image{Size: 9, Data: someBytes(5), Code: someCode(t, many)}
				b := put(t, m)
				four := instrs.Put(x)
				copy(b[9+5+4*place:], four[:])
				noBytes(t, b)
			}
		}
	}
	for _, x := range allInstrs(t) {
		four := instrs.Put(x)
		if m := got(t, headed(0, 0, 1, four[:])); !isSame(m, api.Image{Code: []api.Instr{x}}) {
			t.Errorf("%v: %s", x, told(m))
		}
	}
}

// P13.2: each byte of some images, changed to each other one.
func TestGetEachByte(t *testing.T) {
	for _, m := range []api.Image{
		{}, {Size: 2, Data: []byte{1}}, {Size: 1, Data: []byte{7}, Code: []api.Instr{{Op: api.OpEnd}}},
		{Size: 8, Data: []byte{1, 255}, Code: []api.Instr{{Op: api.OpSet, A: 1, B: 1, C: 44}, {Op: api.OpEnd}}},
	} {
		b := put(t, m)
		for i := range b {
			for n := range 256 {
				c := slices.Clone(b)
				c[i] = byte(n)
				want, wantErr := plainGet(c)
				if m, e := Get(c); !isSame(m, want) || e != wantErr {
					t.Errorf("Get(%v) = %s; %d, want %s; %d", c, told(m), e, told(want), wantErr)
				}
			}
		}
	}
}

// R4: what is handed in stays as it was, its spare room too.
func TestHandedInStays(t *testing.T) {
	for _, m := range append(manyImages(t), badImages(t)...) {
		in := roomy(m)
		before := whole(in)
		Check(in)
		Put(in)
		if !isSame(whole(in), before) {
			t.Errorf("%s is changed", told(m))
		}
		if !Check(m) {
			continue
		}
		b := append(put(t, m), 1, 2, 3, 4, 5)
		kept := slices.Clone(b)
		Get(b[:len(b)-5])
		Get(b[:len(b)-4])
		Get(b[:5])
		if !slices.Equal(b, kept) {
			t.Errorf("bytes of %s are changed", told(m))
		}
	}
}

// R4: what is answered is memory of its own, whatever is written over what was handed in.
func TestAnswersShareNothingHandedIn(t *testing.T) {
	for _, m := range manyImages(t) {
		in := roomy(m)
		b := put(t, in)
		spoil(in)
		if !slices.Equal(b, plainBytes(m)) {
			t.Errorf("Put(%s) hangs on what was handed in", told(m))
		}
		n := got(t, b)
		spoilBytes(b)
		if !isSame(n, m) {
			t.Errorf("Get of %s hangs on what was handed in", told(m))
		}
		in, b = roomy(m), plainBytes(m)
		before, kept := whole(in), slices.Clone(b)
		spoilBytes(put(t, in))
		spoil(got(t, b))
		if !isSame(whole(in), before) || !slices.Equal(b, kept) {
			t.Errorf("%s: what was handed in hangs on an answer", told(m))
		}
	}
}

// R4: nor do two answers share, of the same image, bytes or text.
func TestAnswersShareNothing(t *testing.T) {
	for _, m := range manyImages(t) {
		b, c := put(t, m), put(t, m)
		spoilBytes(b)
		if !slices.Equal(c, plainBytes(m)) {
			t.Errorf("two calls of Put(%s) share", told(m))
		}
		k, l := got(t, c), got(t, c)
		spoil(k)
		if !isSame(l, m) || !isSame(got(t, c), m) {
			t.Errorf("two calls of Get share: %s", told(m))
		}
		s := textOf(t, m, 16)
		k, l = parsed(t, s), parsed(t, s)
		spoil(k)
		if !isSame(l, m) || !isSame(parsed(t, s), m) {
			t.Errorf("two calls of Parse share: %s", told(m))
		}
	}
}

// P13.3: an empty text, and ones of idle lines alone.
func TestParseIdle(t *testing.T) {
	for _, s := range []string{"", "\n", "\n\n", "\n\n\n", "#", "#\n", "##\n#", "#size 1\n#size 1\n", "# nop\n\n#\n", "#\x00\xff\r", "#data 0"} {
		reads(t, s, api.Image{})
	}
	isNone(t, " ", 0)
	isNone(t, " #", 0)
	isNone(t, "\t", 0)
	isNone(t, "\r\n", 0)
	isNone(t, "\x00", 0)
	isNone(t, "\n\r\n", 1)
	isNone(t, "nop #", 0)
	isNone(t, "size 1#", 0)
	isNone(t, "size 1 # of it", 0)
	isNone(t, "size 1\ndata 00 #", 1)
}

// P13.3: the last line ends with a byte 10, or does not; idle lines stand anywhere.
func TestParseLineEnds(t *testing.T) {
	want := api.Image{Size: 4, Data: []byte{1, 2}, Code: []api.Instr{{Op: api.OpTell, A: 3}, {Op: api.OpEnd}}}
	rows := []string{"size 4", "data 0102", "tell r3", "end"}
	for _, end := range []string{"", "\n", "\n\n", "\n#", "\n#\n", "\n\n\n# the end"} {
		for _, between := range []string{"\n", "\n\n", "\n#\n", "\n\n#tell r4\n\n"} {
			for _, ahead := range []string{"", "\n", "#\n", "\n\n# size 5\n"} {
				reads(t, ahead+strings.Join(rows, between)+end, want)
			}
		}
	}
	for _, between := range []string{"", " ", "\r", "\x00\n", "\r\n", "\v", "\f", ";", ","} {
		isNone(t, strings.Join(rows, between), 0)
	}
}

// P13.3: each line alone, with a byte 10 behind it, and without.
func TestParseOneLine(t *testing.T) {
	for _, end := range []string{"", "\n"} {
		reads(t, "size 7"+end, api.Image{Size: 7})
		reads(t, "end"+end, api.Image{Code: []api.Instr{{Op: api.OpEnd}}})
		mayNot(t, "data 07"+end)
		isNone(t, "enD"+end, 0)
		isNone(t, "end "+end, 0)
		isNone(t, " end"+end, 0)
	}
}

// P13.3: what may stand behind size.
func TestParseSize(t *testing.T) {
	for _, n := range []int{0, 1, 9, 10, 99, 100, 1000, 4095, 4096} {
		reads(t, "size "+strconv.Itoa(n), api.Image{Size: n})
	}
	for _, s := range []string{"4097", "5000", "65536", "65537", "2147483646", "2147483647"} {
		mayNot(t, "size "+s)
	}
	for _, s := range []string{
		"", " ", "00", "01", "08", "010", "0000000000000000000001", "2147483648", "2147483649", "4294967296", "4294967297", "9223372036854775807", "9223372036854775808",
		"18446744073709551615", "18446744073709551616", "18446744073709551617", "99999999999999999999999999999999", "-1", "-0", "+1", "+0", "1 ", " 1", "1 1", "1_0", "0x1", "1e1", "1.0", "a", "1a", "a1", "\t1", "1\t", "1\r", "\u0661", "\xff",
	} {
		isNone(t, "size "+s, 0)
	}
	for _, s := range []string{"size", "Size 1", "SIZE 1", "size1", "size\t1", "size\u00a01", "size  1", " size 1", "sizes 1", "siz 1", "size:1", "size=1", "size-1", "\"size\" 1"} {
		isNone(t, s, 0)
	}
}

// P13.3: Size is told once, if at all, whatever it is.
func TestParseSizeTwice(t *testing.T) {
	for _, a := range []string{"0", "1", "4096", "4097", "2147483647"} {
		for _, b := range []string{"0", "1", "4096", "4097", "2147483647"} {
			isNone(t, "size "+a+"\nsize "+b, 1)
			isNone(t, "nop\nsize "+a+"\n\n#\nend\nsize "+b+"\n", 5)
		}
	}
	isNone(t, "size 1\nsize", 1)
	isNone(t, "size 1\nsize 1\nsize 1", 1)
	reads(t, "#size 1\nsize 2\n#size 2", api.Image{Size: 2})
	reads(t, "nop", api.Image{Code: []api.Instr{{}}})
	mayNot(t, "nop\ndata 00")
}

// P13.3: what may stand behind data.
func TestParseData(t *testing.T) {
	for n := range 256 {
		reads(t, fmt.Sprintf("size 1\ndata %02x", n), api.Image{Size: 1, Data: []byte{byte(n)}})
		if n >= 0xa0 || n%16 >= 10 {
			isNone(t, fmt.Sprintf("size 1\ndata %02X", n), 1)
		}
	}
	reads(t, "size 3\ndata 0a\ndata f001", api.Image{Size: 3, Data: []byte{10, 240, 1}})
	reads(t, "size 9\ndata 0123456789abcdef", api.Image{Size: 9, Data: []byte{0x01, 0x23, 0x45, 0x67, 0x89, 0xab, 0xcd, 0xef}})
	for _, s := range []string{
		"", " ", "0", "f", "000", "00000", "0g", "g0", "AB", "aB", "Ab", "00AB", "FF", "00 ", " 00", "00 00", "0 0", "00\t", "0x", "0x00", "-1", "+1", "00,", "00\r", "\x00\x00", "\xff\xff", "\u00e9", "//", "::", "@@", "``", "zz",
	} {
		isNone(t, "size 9\ndata "+s, 1)
		isNone(t, "size 9\ndata 00\ndata "+s, 2)
	}
	for _, s := range []string{"data", "Data 00", "DATA 00", "data00", "data\t00", "data  00", " data 00", "datas 00", "dat 00", "data:00"} {
		isNone(t, s, 0)
	}
}

// P13.3: no byte but the sixteen is a digit, neither as the higher one nor as the lower one.
func TestParseDigits(t *testing.T) {
	for n := range 256 {
		c := string([]byte{byte(n)})
		if strings.Contains("0123456789abcdef", c) {
			mayNot(t, "data 0"+c)
			mayNot(t, "data "+c+"0")
			continue
		}
		isNone(t, "data 0"+c, 0)
		isNone(t, "data 000"+c, 0)
		if c != "\n" {
			isNone(t, "data "+c+"0", 0)
			isNone(t, "data "+c+c, 0)
		}
		isNone(t, "data "+c+c+"00", 0)
	}
}

// P13.3: bytes of several lines stand behind one another, as the lines do.
func TestParseDataLines(t *testing.T) {
	want := api.Image{Size: 300, Data: someBytes(256)}
	for piece := 1; piece <= 256; piece++ {
		reads(t, textOf(t, want, piece), want)
	}
	full := api.Image{Size: api.MaxRegion, Data: someBytes(api.MaxRegion)}
	for _, piece := range []int{1, 7, 4095, 4096} {
		s := textOf(t, full, piece)
		reads(t, s, full)
		mayNot(t, s+"data 00\n")
		mayNot(t, "data 00\n"+s)
		mayNot(t, strings.Replace(s, "size 4096", "size 4095", 1))
	}
}

// P13.3: each instruction, as it is written.
func TestParseInstrs(t *testing.T) {
	all := allInstrs(t)
	for _, x := range all {
		s, _ := instrs.Text(x)
		reads(t, s, api.Image{Code: []api.Instr{x}})
		reads(t, "end\n"+s+"\nnop\n", api.Image{Code: []api.Instr{{Op: api.OpEnd}, x, {}}})
		isNone(t, s+" ", 0)
		isNone(t, " "+s, 0)
		isNone(t, strings.ToUpper(s), 0)
		isNone(t, s+" r0", 0)
	}
	for _, s := range []string{
		"Nop", "nop 1", "nop ", "set", "set r1", "set r8 1", "set r1 65536", "set r1 01", "set r1 -1", "set r1 1 ", "set  r1 1", "move r1  r2", "move r1 r2 r3", "add r1 r2 8",
		"same r0 r0 128", "same r0 r0 -0", "same r0 r0 -129", "go 65536", "go r1", "tell 1", "ask 0", "ask 21", "ask", "stop", "nop nop", "nop;end", "end\r", "\xffend", "data nop", "size nop", "nop size 1",
	} {
		isNone(t, s, 0)
		isNone(t, "nop\n"+s+"\nnop", 1)
	}
}

// P13.3: Code of MaxCode instructions, and of one more.
func TestParseManyInstrs(t *testing.T) {
	m := api.Image{Size: 2, Data: []byte{1}, Code: someCode(t, api.MaxCode)}
	s := textOf(t, m, 1)
	reads(t, s, m)
	mayNot(t, s+"nop")
	mayNot(t, "nop\n"+s)
	isNone(t, s+"nop\nnop\nnup", 2+api.MaxCode+2)
	mayNot(t, strings.Repeat("nop\n", 1<<16))
	reads(t, textOf(t, greatest(t), 64), greatest(t))
}

// P13.3: the number of the first line that is none, all lines counted; one that is none goes ahead of an image that may not be.
func TestParseFirstLine(t *testing.T) {
	good := []string{"", "#", "# x", "nop", "end", "set r1 300", "data 00", "data 01ff"}
	bad := []string{"Nop", " ", "size", "size 01", "data", "data 0", "data 0G", "set r8 1", "x"}
	d := &dice{n: 5}
	for many := 1; many <= 20; many++ {
		for place := range many {
			rows := make([]string, many)
			for i := range rows {
				rows[i] = good[d.below(len(good))]
				if i > place && d.below(2) == 0 {
					rows[i] = bad[d.below(len(bad))]
				}
			}
			rows[place] = bad[d.below(len(bad))]
			for _, end := range []string{"", "\n", "\n\n"} {
				isNone(t, strings.Join(rows, "\n")+end, place)
			}
		}
	}
	isNone(t, "size 4097\nx", 1)
	isNone(t, "x\nsize 4097", 0)
	isNone(t, "data 00\nx", 1)
	isNone(t, "size 2147483647\ndata 00\nsize 1", 2)
	isNone(t, "size 1\n\n#\nx\nsize 1\n", 3)
	isNone(t, "size 1\n\n#\nsize 1\nx\n", 3)
	isNone(t, strings.Repeat("\n", 100000)+"x", 100000)
	isNone(t, strings.Repeat("nop\n", api.MaxCode+5)+"x", api.MaxCode+5)
}

// P13.3: ErrArg and 0, where the lines are lines, but the image may not be.
func TestParseMayNot(t *testing.T) {
	for _, s := range []string{
		"data 00", "#\n\ndata 00\n", "size 0\ndata 00", "data 00\nsize 0", "data 0102\nsize 1", "size 1\ndata 0102", "size 1\ndata 01\nnop\ndata 02", "data 01\nsize 1\ndata 02",
		"size 4097", "\n\nsize 4097\n", "end\nsize 2147483647", "data 00\nsize 4097",
	} {
		mayNot(t, s)
	}
	reads(t, "data 00\nsize 1", api.Image{Size: 1, Data: []byte{0}})
	reads(t, "data 00\nend\ndata 01\nsize 2", api.Image{Size: 2, Data: []byte{0, 1}, Code: []api.Instr{{Op: api.OpEnd}}})
}

// merges calls do with each row that keeps the order within each kind.
func merges(kinds [][]string, done []string, do func([]string)) {
	isDone := true
	for i, k := range kinds {
		if len(k) == 0 {
			continue
		}
		isDone = false
		rest := slices.Clone(kinds)
		rest[i] = k[1:]
		merges(rest, append(slices.Clone(done), k[0]), do)
	}
	if isDone {
		do(done)
	}
}

// P13.4: in whatever order lines of unlike kinds stand, they are read as the image.
func TestParseOrder(t *testing.T) {
	m := api.Image{Size: 8, Data: []byte{1, 2, 3, 255}, Code: []api.Instr{{Op: api.OpSet, A: 1, B: 1, C: 44}, {Op: api.OpTell, A: 1}, {Op: api.OpTell, A: 2}, {Op: api.OpEnd}}}
	size, data, code := rowsOf(t, m, 1)
	orders := 0
	merges([][]string{size, data, code, {"#", ""}}, nil, func(rows []string) {
		orders++
		reads(t, strings.Join(rows, "\n"), m)
	})
	if orders != 11*10*9*8*7*6*5*4*3*2/(24*24*2) {
		t.Errorf("%d orders", orders)
	}
	reads(t, "end\nnop\nsize 2\ndata 02\ndata 01", api.Image{Size: 2, Data: []byte{2, 1}, Code: []api.Instr{{Op: api.OpEnd}, {}}})
}

// P13.4: what is put is got, what is written is read.
func TestWrittenIsRead(t *testing.T) {
	for _, m := range manyImages(t) {
		for _, piece := range []int{1, 5, 4096} {
			n := parsed(t, textOf(t, m, piece))
			if !isSame(n, m) || !isSame(got(t, put(t, n)), m) {
				t.Errorf("%s is read as %s", told(m), told(n))
			}
		}
	}
}

// chanceImage often may be, and sometimes may not.
func chanceImage(d *dice, all []api.Instr) api.Image {
	m := api.Image{Size: d.below(40)}
	if d.below(20) == 0 {
		m.Size = []int{-1, 4095, 4096, 4097, 65536}[d.below(5)]
	}
	m.Data = someBytes(d.below(300))
	if d.below(8) > 0 {
		m.Data = m.Data[:min(len(m.Data), max(m.Size, 0))]
	}
	for range d.below(12) {
		m.Code = append(m.Code, all[d.below(len(all))])
	}
	if len(m.Code) > 0 && d.below(8) == 0 {
		m.Code[d.below(len(m.Code))] = badInstrs()[d.below(len(badInstrs()))]
	}
	return m
}

// P13.1, P13.2: a long run of Check, Put and Get against a plain reading of the chapter.
func TestLongRunOfBytes(t *testing.T) {
	d, all := &dice{n: 13}, allInstrs(t)
	mays, gots := 0, 0
	for range 20000 {
		m := chanceImage(d, all)
		may := plainMay(m)
		b, e := Put(m)
		if Check(m) != may || may && (e != api.OK || !slices.Equal(b, plainBytes(m))) || !may && (e != api.ErrArg || len(b) != 0) {
			t.Fatalf("Put(%s) = %v, %d", told(m), b, e)
		}
		if !may {
			continue
		}
		mays++
		if n, e := Get(b); !isSame(n, m) || e != api.OK {
			t.Fatalf("Get(Put(%s)) = %s; %d", told(m), told(n), e)
		}
		c := changed(d, b)
		want, wantErr := plainGet(c)
		if wantErr == api.OK {
			gots++
		}
		if n, e := Get(c); !isSame(n, want) || e != wantErr {
			t.Fatalf("Get(%v) = %s; %d, want %s; %d", c, told(n), e, told(want), wantErr)
		}
	}
	if mays < 5000 || gots < 1000 {
		t.Errorf("the run met only %d images, and %d changed ones", mays, gots)
	}
}

// changed is a list with a byte changed, taken out, or put in.
func changed(d *dice, b []byte) []byte {
	place := d.below(len(b))
	switch d.below(4) {
	case 0:
		return slices.Delete(slices.Clone(b), place, place+1)
	case 1:
		return slices.Insert(slices.Clone(b), place, byte(d.below(256)))
	default:
		c := slices.Clone(b)
		c[place] ^= 1 << d.below(8)
		return c
	}
}

// chanceLine is often one of an image's, and sometimes none.
func chanceLine(d *dice, all []api.Instr) string {
	switch k := d.below(60); {
	case k < 6:
		return []string{"", "#", "# size 4"}[d.below(3)]
	case k < 9:
		return "size " + []string{"0", "3", "5", "9", "4096", "4097", "2147483647", "8", "8"}[d.below(9)]
	case k < 19:
		return "data " + hex.EncodeToString(someBytes(1+d.below(3)))
	case k < 20:
		return []string{"size", "size 08", "size 2147483648", "data", "data 0", "data AA", "nop ", "set r9 1", " "}[d.below(9)]
	default:
		s, _ := instrs.Text(all[d.below(len(all))])
		return s
	}
}

// P13.3: a long run of Parse against a plain reading of the chapter.
func TestLongRunOfTexts(t *testing.T) {
	d, all := &dice{n: 99}, allInstrs(t)
	met := map[api.Errno]int{}
	for range 30000 {
		var rows []string
		if d.below(2) == 0 {
			rows = []string{"size " + strconv.Itoa(d.below(50))}
		}
		for range d.below(20) {
			rows = append(rows, chanceLine(d, all))
		}
		s := strings.Join(rows, "\n")
		switch d.below(6) {
		case 0:
			s = string(changed(d, []byte(s+"\n")))
		case 1:
			s += "\n"
		}
		want, wantLine, wantErr := plainParse(s)
		if m, line, e := Parse(s); !isSame(m, want) || line != wantLine || e != wantErr {
			t.Fatalf("Parse(%q) = %s; %d, %d, want %s; %d, %d", s, told(m), line, e, told(want), wantLine, wantErr)
		}
		met[wantErr]++
	}
	for _, e := range []api.Errno{api.OK, api.ErrArg, api.ErrForm} {
		if met[e] < 3000 {
			t.Errorf("the run met %d only %d times", e, met[e])
		}
	}
}

// R1: a line of great length, and a text of many lines, are read.
func TestParseLong(t *testing.T) {
	mayNot(t, "data "+strings.Repeat("0f", 1<<20))
	isNone(t, "data "+strings.Repeat("0f", 1<<20)+"0", 0)
	isNone(t, "size "+strings.Repeat("1", 1<<20), 0)
	isNone(t, "size "+strings.Repeat("0", 1<<20), 0)
	isNone(t, strings.Repeat("nop ", 1<<20), 0)
	isNone(t, strings.Repeat(" ", 1<<20), 0)
	reads(t, strings.Repeat("\n#\n", 1<<19)+"#"+strings.Repeat("size ", 1<<18), api.Image{})
}

// The chapter's examples.
func TestExamples(t *testing.T) {
	want := api.Image{Size: 8, Data: []byte{1, 255}, Code: []api.Instr{{Op: api.OpSet, A: 1, B: 1, C: 44}, {Op: api.OpEnd}}}
	m := parsed(t, "size 8\ndata 01ff\nset r1 300\nend\n")
	if !isSame(m, want) {
		t.Error(told(m))
	}
	if b := put(t, m); !slices.Equal(b, []byte{'t', 'k', '1', 0, 8, 0, 2, 0, 2, 1, 255, 1, 1, 1, 44, 22, 0, 0, 0}) {
		t.Error(b)
	}
	reads(t, "", api.Image{})
	isNone(t, "#\n\nsize 1\nsize 1", 3)
	isNone(t, "data 0", 0)
	mayNot(t, "data 00")
	mayNot(t, "size 4097")
	if m := got(t, []byte{'t', 'k', '1', 0, 0, 0, 0, 0, 0}); !isEmpty(m) {
		t.Error(told(m))
	}
	noBytes(t, []byte{'t', 'k', '1', 0, 0, 0, 1, 0, 0, 5})
	noBytes(t, nil)
}
