package utf_test

import (
	"math"
	"strings"
	"testing"

	"rostrum/api"
	"rostrum/utf"
)

// The chapter's first example: characters of 1, 2, 3 and 4 bytes.
const mixed = "a\u00e9\u20ac\U0001d11e"

// P1.1: Valid and Len16, by hand.
func TestValidAndLen16(t *testing.T) {
	for _, x := range []struct {
		s     string
		valid bool
		units int
	}{
		{"", true, 0},
		{"a", true, 1},
		{"\x00", true, 1},
		{"\x7f\u0080\u07ff\u0800\ud7ff\ue000\uffff", true, 7},
		{"\ufffd", true, 1},
		{"\U00010000\U0010ffff", true, 4},
		{mixed, true, 5},
		{"\xffa", false, 2},
		{"\x80", false, 1},
		{"a\xc3", false, 2},
		{"\xc0\x80", false, 2},
		{"\xc1\xbf", false, 2},
		{"\xe0\x9f\xbf", false, 3},
		{"\xf0\x8f\xbf\xbf", false, 4},
		{"\xed\xa0\x80", false, 3},
		{"\xed\xbf\xbf", false, 3},
		{"\xf4\x90\x80\x80", false, 4},
		{"\xf8\x88\x80\x80\x80", false, 5},
		{"\xf0\x9d\x84", false, 3},
		{"\xf0\x9d\x84\U0001d11e", false, 5},
		{"\xe2\x82a", false, 3},
		{strings.Repeat(mixed, 1000), true, 5000},
		{strings.Repeat(mixed, 1000) + "\x80", false, 5001},
	} {
		if v := utf.Valid(x.s); v != x.valid {
			t.Errorf("Valid of %q: %v", x.s, v)
		}
		if n := utf.Len16(x.s); n != x.units {
			t.Errorf("Len16 of %q: %d, not %d", x.s, n, x.units)
		}
	}
}

// P1.1: Unit, by hand; beside an error the number is 0.
func TestUnit(t *testing.T) {
	for _, x := range []struct {
		s     string
		at, n int
		e     api.Errno
	}{
		{mixed, 0, 0, api.OK},
		{mixed, 1, 1, api.OK},
		{mixed, 2, 0, api.ErrPos},
		{mixed, 3, 2, api.OK},
		{mixed, 4, 0, api.ErrPos},
		{mixed, 5, 0, api.ErrPos},
		{mixed, 6, 3, api.OK},
		{mixed, 7, 0, api.ErrPos},
		{mixed, 8, 0, api.ErrPos},
		{mixed, 9, 0, api.ErrPos},
		{mixed, 10, 5, api.OK},
		{mixed, 11, 0, api.ErrArg},
		{mixed, -1, 0, api.ErrArg},
		{mixed, math.MaxInt, 0, api.ErrArg},
		{mixed, math.MinInt, 0, api.ErrArg},
		{"", 0, 0, api.OK},
		{"", 1, 0, api.ErrArg},
		{"", -1, 0, api.ErrArg},
		{"\xed\xa0\x80", 2, 2, api.OK},
		{"\xf0\x9d\x84", 3, 3, api.OK},
		{"\xff\U0001d11e\x80", 5, 3, api.OK},
		{"\xff\U0001d11e\x80", 6, 4, api.OK},
	} {
		if n, e := utf.Unit(x.s, x.at); n != x.n || e != x.e {
			t.Errorf("Unit of %q at %d: %d, %v", x.s, x.at, n, e)
		}
	}
}

// P1.1: Byte, by hand; beside an error the place is 0.
func TestByte(t *testing.T) {
	for _, x := range []struct {
		s       string
		unit, n int
		e       api.Errno
	}{
		{mixed, 0, 0, api.OK},
		{mixed, 1, 1, api.OK},
		{mixed, 2, 3, api.OK},
		{mixed, 3, 6, api.OK},
		{mixed, 4, 0, api.ErrPos},
		{mixed, 5, 10, api.OK},
		{mixed, 6, 0, api.ErrArg},
		{mixed, -1, 0, api.ErrArg},
		{mixed, math.MaxInt, 0, api.ErrArg},
		{mixed, math.MinInt, 0, api.ErrArg},
		{"", 0, 0, api.OK},
		{"", 1, 0, api.ErrArg},
		{"", -1, 0, api.ErrArg},
		{"\U0001d11ea", 1, 0, api.ErrPos},
		{"\U0001d11ea", 2, 4, api.OK},
		{"\U0001d11ea", 3, 5, api.OK},
		{"\xed\xa0\x80", 2, 2, api.OK},
		{"\xf0\x9d\x84", 3, 3, api.OK},
	} {
		if n, e := utf.Byte(x.s, x.unit); n != x.n || e != x.e {
			t.Errorf("Byte of %q, %d units: %d, %v", x.s, x.unit, n, e)
		}
	}
}

// P1.1: all four, against the chapter's terms.
func TestCountsAsTheTermsSay(t *testing.T) {
	eachText(func(s string) {
		l := chars(s)
		valid, units := true, 0
		wantUnit := make([]int, len(s)+1) // by byte; -1: within a character
		var wantByte []int                // by unit; -1: the second one
		for i := range wantUnit {
			wantUnit[i] = -1
		}
		for _, c := range l {
			valid = valid && c.point >= 0
			wantUnit[c.place] = units
			wantByte = append(wantByte, c.place)
			if c.units == 2 {
				wantByte = append(wantByte, -1)
			}
			units += c.units
		}
		wantUnit[len(s)] = units
		wantByte = append(wantByte, len(s))
		if utf.Valid(s) != valid || utf.Len16(s) != units {
			t.Fatalf("%q: Valid %v, Len16 %d, not %v, %d", s, utf.Valid(s), utf.Len16(s), valid, units)
		}
		checkPlaces(t, s, "Unit", utf.Unit, wantUnit)
		checkPlaces(t, s, "Byte", utf.Byte, wantByte)
	})
}

func checkPlaces(t *testing.T, s, name string, call func(string, int) (int, api.Errno), want []int) {
	t.Helper()
	for i := -2; i < len(want)+2; i++ {
		n, e := 0, api.ErrArg
		if i >= 0 && i < len(want) {
			n, e = want[i], api.OK
			if n < 0 {
				n, e = 0, api.ErrPos
			}
		}
		if got, err := call(s, i); got != n || err != e {
			t.Fatalf("%s of %q, %d: %d, %v, not %d, %v", name, s, i, got, err, n, e)
		}
	}
}

// P1.2: Rune, by hand.
func TestRune(t *testing.T) {
	for _, x := range []struct {
		s        string
		point, n int
	}{
		{"", -1, 0},
		{"a\xff", 'a', 1},
		{"\x00", 0, 1},
		{"\u20acx", 0x20AC, 3},
		{"\ufffd", 0xFFFD, 3},
		{mixed[6:], 0x1D11E, 4},
		{"\U0010ffff", 0x10FFFF, 4},
		{"\xed\x9f\xbf", 0xD7FF, 3},
		{"\xed\xa0\x80", -1, 1},
		{"\xed\xbf\xbf", -1, 1},
		{"\xee\x80\x80", 0xE000, 3},
		{"\xc0\x80", -1, 1},
		{"\xe0\x80\x80", -1, 1},
		{"\xf0\x80\x80\x80", -1, 1},
		{"\xf4\x90\x80\x80", -1, 1},
		{"\x80", -1, 1},
		{"\xff", -1, 1},
		{"\xe2\x82", -1, 1},
	} {
		if p, n := utf.Rune(x.s); p != x.point || n != x.n {
			t.Errorf("Rune of %q: %x, %d", x.s, p, n)
		}
	}
}

// P1.2: Rune, against the chapter's terms.
func TestRuneAsTheTermsSay(t *testing.T) {
	eachText(func(s string) {
		if s == "" {
			return
		}
		c := first(s)
		if p, n := utf.Rune(s); p != c.point || n != len(c.bytes) {
			t.Fatalf("Rune of %q: %x, %d, not %x, %d", s, p, n, c.point, len(c.bytes))
		}
	})
}

// P1.2: Put of every code point, and of numbers that are none.
func TestPut(t *testing.T) {
	for n := -0x1000; n <= 0x120000; n++ {
		want := ""
		if isPoint(n) {
			want = spell(n)
		}
		if s := utf.Put(n); s != want {
			t.Fatalf("Put(%x): %q, not %q", n, s, want)
		}
	}
	for _, n := range []int{math.MinInt, math.MinInt32, math.MaxInt32, math.MaxInt, far(1) + 'a', -far(1) + 'a'} {
		if s := utf.Put(n); s != "" {
			t.Errorf("Put(%d): %q", n, s)
		}
	}
}

// far is a multiple of 2^32: a conversion to 32 bits would lose it.
func far(times int) int {
	return int(int64(times) << 32)
}

// P1.2: Pair of all units, and of what is no pair.
func TestPair(t *testing.T) {
	want := 0x10000
	for high := 0xD800; high <= 0xDBFF; high++ {
		for low := 0xDC00; low <= 0xDFFF; low++ {
			if p, ok := utf.Pair(high, low); p != want || !ok {
				t.Fatalf("Pair(%x, %x): %x, %v, not %x", high, low, p, ok, want)
			}
			want++
		}
	}
	for _, x := range [][2]int{
		{0xD7FF, 0xDC00}, {0xDC00, 0xDC00}, {0xD800, 0xDBFF}, {0xD800, 0xE000},
		{0xDC00, 0xD800}, {0xDFFF, 0xDFFF}, {0xD800, 0xD800}, {0, 0}, {'a', 'b'},
		{-1, 0xDC00}, {0xD800, -1}, {0x1D800, 0xDC00}, {0xD800, 0x1DC00},
		{math.MinInt, math.MaxInt}, {math.MaxInt, math.MinInt}, {far(1) + 0xD800, far(1) + 0xDC00},
	} {
		if p, ok := utf.Pair(x[0], x[1]); p != 0 || ok {
			t.Errorf("Pair(%x, %x): %x, %v", x[0], x[1], p, ok)
		}
	}
}

// P1.2: Halves of every number around the code points.
func TestHalves(t *testing.T) {
	for n := -0x1000; n <= 0x120000; n++ {
		high, low := 0, 0
		if n >= 0x10000 && n <= 0x10FFFF {
			high, low = 0xD800+(n-0x10000)/0x400, 0xDC00+(n-0x10000)%0x400
		}
		if a, b := utf.Halves(n); a != high || b != low {
			t.Fatalf("Halves(%x): %x, %x, not %x, %x", n, a, b, high, low)
		}
	}
	if a, b := utf.Halves(0x1D11E); a != 0xD834 || b != 0xDD1E {
		t.Errorf("Halves(1d11e): %x, %x", a, b)
	}
	for _, n := range []int{math.MinInt, math.MaxInt, far(1) + 0x1D11E, -far(1) + 0x1D11E} {
		if a, b := utf.Halves(n); a != 0 || b != 0 {
			t.Errorf("Halves(%x): %x, %x", n, a, b)
		}
	}
}

// P1.3: Byte and Unit lead back, from wherever one of them leads.
func TestByteAndUnitLeadBack(t *testing.T) {
	eachText(func(s string) {
		starts := 0
		for at := 0; at <= len(s); at++ {
			unit, e := utf.Unit(s, at)
			if e != api.OK {
				continue
			}
			starts++
			if back, e := utf.Byte(s, unit); back != at || e != api.OK {
				t.Fatalf("%q: byte %d, unit %d, byte %d, %v", s, at, unit, back, e)
			}
		}
		for unit := 0; unit <= utf.Len16(s); unit++ {
			at, e := utf.Byte(s, unit)
			if e != api.OK {
				continue
			}
			starts--
			if back, e := utf.Unit(s, at); back != unit || e != api.OK {
				t.Fatalf("%q: unit %d, byte %d, unit %d, %v", s, unit, at, back, e)
			}
		}
		if starts != 0 {
			t.Fatalf("%q: Unit leads from %d more places than Byte", s, starts)
		}
	})
}

// P1.3: Rune leads back from Put, Pair from Halves, for every code point.
func TestRuneAndPairLeadBack(t *testing.T) {
	for n := 0; n <= 0x10FFFF; n++ {
		if !isPoint(n) {
			continue
		}
		for _, tail := range []string{"", "a", "\x80"} {
			s := utf.Put(n)
			if p, size := utf.Rune(s + tail); p != n || size != len(s) {
				t.Fatalf("Rune of Put(%x) and %q: %x, %d", n, tail, p, size)
			}
		}
		high, low := utf.Halves(n)
		if p, ok := utf.Pair(high, low); ok != (n >= 0x10000) || ok && p != n {
			t.Fatalf("Pair of Halves(%x): %x, %v", n, p, ok)
		}
	}
}

// P1.4: behind a valid text nothing is counted otherwise than alone.
func TestConcatenation(t *testing.T) {
	l := rows()
	l = l[:1+len(pieces())+len(pieces())*len(pieces())] // of up to two pieces
	for _, a := range l {
		if !utf.Valid(a) {
			continue
		}
		for _, b := range l {
			if n := utf.Len16(a + b); n != utf.Len16(a)+utf.Len16(b) {
				t.Fatalf("Len16 of %q and %q: %d", a, b, n)
			}
			if utf.Valid(a+b) != utf.Valid(b) {
				t.Fatalf("Valid of %q and %q: %v", a, b, utf.Valid(a+b))
			}
		}
	}
}

// P1.4 asks for a valid first text: two that are not may join to one character.
func TestStrayBytesMayJoin(t *testing.T) {
	if utf.Valid("\xc3") || utf.Valid("\xa9") || !utf.Valid("\xc3"+"\xa9") || utf.Len16("\xc3"+"\xa9") != 1 {
		t.Error("two stray bytes do not join")
	}
}
