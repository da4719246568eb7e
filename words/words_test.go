package words

import "testing"

const (
	least64    = -1 << 63
	greatest64 = 1<<63 - 1
	round      = 1 << 32
	middle     = 1 << 31
)

// edges are the numbers at which something turns, and their neighbours.
func edges() []uint32 {
	return []uint32{0, 1, 2, 3, 5, 255, 256, 65535, 65536, 1 << 30, middle - 2, middle - 1, middle, middle + 1, middle + 2, 3 << 30, round - 3, round - 2, round - 1}
}

// P1.1
func TestSigned(t *testing.T) {
	cases := []struct {
		a    uint32
		want int64
	}{
		{0, 0}, {1, 1}, {5, 5}, {65536, 65536},
		{middle - 1, middle - 1}, {middle, -middle}, {middle + 1, -middle + 1},
		{3 << 30, -1 << 30}, {round - 2, -2}, {round - 1, -1},
	}
	for _, c := range cases {
		if got := Signed(c.a); got != c.want {
			t.Errorf("Signed(%d) = %d, want %d", c.a, got, c.want)
		}
	}
}

// P1.1: where the sign begins hangs on the type's width alone.
func TestWithSignAtOtherWidths(t *testing.T) {
	for i := range 256 {
		want := int64(i)
		if i >= 128 {
			want -= 256
		}
		if got := withSign(uint8(i)); got != want {
			t.Errorf("withSign(uint8 %d) = %d, want %d", i, got, want)
		}
	}
	for i := range 65536 {
		want := int64(i)
		if i >= 32768 {
			want -= 65536
		}
		if got := withSign(uint16(i)); got != want {
			t.Errorf("withSign(uint16 %d) = %d, want %d", i, got, want)
		}
	}
}

// P1.1
func TestOf(t *testing.T) {
	cases := []struct {
		n    int64
		want uint32
	}{
		{0, 0}, {5, 5}, {middle - 1, middle - 1}, {middle, middle}, {round - 1, round - 1},
		{round, 0}, {round + 1, 1}, {round + 3, 3}, {5*round + 7, 7},
		{-1, round - 1}, {-2, round - 2}, {-middle, middle}, {-middle - 1, middle - 1},
		{-round + 1, 1}, {-round, 0}, {-round - 1, round - 1},
		{least64, 0}, {least64 + 1, 1}, {greatest64, round - 1}, {greatest64 - 1, round - 2},
	}
	for _, c := range cases {
		if got := Of(c.n); got != c.want {
			t.Errorf("Of(%d) = %d, want %d", c.n, got, c.want)
		}
	}
}

// P1.1: Of differs from its number by whole rounds.
func TestOfDiffersByRounds(t *testing.T) {
	for _, a := range edges() {
		for _, rounds := range []int64{-1 << 31, -3, -1, 0, 1, 3, 1<<31 - 1} {
			n := rounds*round + int64(a)
			if got := Of(n); got != a {
				t.Errorf("Of(%d) = %d, want %d", n, got, a)
			}
		}
	}
}

// P1.2
func TestSince(t *testing.T) {
	cases := []struct{ from, to, want uint32 }{
		{3, 5, 2}, {5, 3, round - 2}, {7, 7, 0}, {0, 0, 0},
		{0, round - 1, round - 1}, {round - 1, 0, 1}, {round - 1, 1, 2}, {round - 1, round - 1, 0},
		{0, middle, middle}, {middle, 0, middle}, {middle - 1, middle, 1}, {middle, middle - 1, round - 1},
	}
	for _, c := range cases {
		if got := Since(c.from, c.to); got != c.want {
			t.Errorf("Since(%d, %d) = %d, want %d", c.from, c.to, got, c.want)
		}
	}
}

// P1.2: counted by adding 1, as the promise says it, across the place where numbers go round.
func TestSinceCounted(t *testing.T) {
	for _, from := range edges() {
		to := from
		for n := range uint32(300) {
			if got := Since(from, to); got != n {
				t.Fatalf("Since(%d, %d) = %d, want %d", from, to, got, n)
			}
			to++
		}
	}
}

// P1.3
func TestPast(t *testing.T) {
	cases := []struct {
		at, now uint32
		want    bool
	}{
		{3, 5, true}, {5, 3, false}, {7, 7, true}, {round - 1, 1, true}, {1, round - 1, false},
		{0, middle - 1, true}, {0, middle, false}, {0, middle + 1, false}, {0, round - 1, false},
		{middle, 0, false}, {middle + 1, 0, true}, {middle - 1, 0, false}, {1, middle, true},
		{round - 1, middle - 2, true}, {round - 1, middle - 1, false},
	}
	for _, c := range cases {
		if got := Past(c.at, c.now); got != c.want {
			t.Errorf("Past(%d, %d) = %v, want %v", c.at, c.now, got, c.want)
		}
	}
}

// P1.3: Past is told by Since.
func TestPastIsSince(t *testing.T) {
	for _, at := range edges() {
		for _, now := range edges() {
			if got, want := Past(at, now), Since(at, now) < middle; got != want {
				t.Errorf("Past(%d, %d) = %v, want %v", at, now, got, want)
			}
		}
	}
}

// P1.4: Of Signed is the number.
func TestOfSigned(t *testing.T) {
	for _, a := range edges() {
		n := Signed(a)
		if n < -middle || n >= middle {
			t.Errorf("Signed(%d) = %d, out of its range", a, n)
		}
		if got := Of(n); got != a {
			t.Errorf("Of(Signed(%d)) = %d", a, got)
		}
	}
}

// P1.4: since one and since the next one together are since the first one.
func TestSinceTogether(t *testing.T) {
	for _, a := range edges() {
		for _, b := range edges() {
			for _, c := range edges() {
				if got, want := Since(a, b)+Since(b, c), Since(a, c); got != want {
					t.Errorf("Since(%d, %d) + Since(%d, %d) = %d, want %d", a, b, b, c, got, want)
				}
			}
		}
	}
}

// P1.4: of two unlike numbers just one is past; not so of those half a round apart, of which neither is.
func TestPastOfTwo(t *testing.T) {
	for _, a := range edges() {
		for _, b := range edges() {
			there, back := Past(a, b), Past(b, a)
			switch {
			case a == b && !(there && back):
				t.Errorf("Past(%d, %d) = %v, %v, want both", a, b, there, back)
			case a-b == middle && (there || back):
				t.Errorf("Past(%d, %d) = %v, %v, want neither", a, b, there, back)
			case a != b && a-b != middle && there == back:
				t.Errorf("Past(%d, %d) = %v, %v, want one", a, b, there, back)
			}
		}
	}
}

// The chapter's examples.
func TestExamples(t *testing.T) {
	numbers := []struct {
		name      string
		got, want int64
	}{
		{"Signed(5)", Signed(5), 5},
		{"Signed(2^32 - 1)", Signed(round - 1), -1},
		{"Signed(2^31)", Signed(middle), -middle},
		{"Of(-1)", int64(Of(-1)), round - 1},
		{"Of(2^32 + 3)", int64(Of(round + 3)), 3},
		{"Since(3, 5)", int64(Since(3, 5)), 2},
		{"Since(5, 3)", int64(Since(5, 3)), round - 2},
	}
	for _, c := range numbers {
		if c.got != c.want {
			t.Errorf("%s = %d, want %d", c.name, c.got, c.want)
		}
	}
	answers := []struct {
		name      string
		got, want bool
	}{
		{"Past(3, 5)", Past(3, 5), true},
		{"Past(5, 3)", Past(5, 3), false},
		{"Past(7, 7)", Past(7, 7), true},
		{"Past(2^32 - 1, 1)", Past(round-1, 1), true},
		{"Past(0, 2^31)", Past(0, middle), false},
	}
	for _, c := range answers {
		if c.got != c.want {
			t.Errorf("%s = %v, want %v", c.name, c.got, c.want)
		}
	}
}
