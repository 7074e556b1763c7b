package utf_test

// The chapter's terms, as plainly as they are written there, so that the package is held against something that shares no code with it.

// isPoint: a number from 0 to 10FFFF, except D800 to DFFF.
func isPoint(n int) bool {
	return n >= 0 && n <= 0x10FFFF && !(n >= 0xD800 && n <= 0xDFFF)
}

// spell: a code point's bytes.
func spell(n int) string {
	tail := func(bits int) byte { return byte(0x80 + n>>bits&0x3F) }
	switch {
	case n < 0x80:
		return string([]byte{byte(n)})
	case n < 0x800:
		return string([]byte{byte(0xC0 + n>>6), tail(0)})
	case n < 0x10000:
		return string([]byte{byte(0xE0 + n>>12), tail(6), tail(0)})
	default:
		return string([]byte{byte(0xF0 + n>>18), tail(12), tail(6), tail(0)})
	}
}

// guess: the number that so many bytes would spell, if they spell one at all.
func guess(s string) int {
	lead := []int{0x7F, 0x1F, 0x0F, 0x07}[len(s)-1]
	n := int(s[0]) & lead
	for i := 1; i < len(s); i++ {
		n = n<<6 + int(s[i])&0x3F
	}
	return n
}

// char is a character: its place, its bytes, its code point (-1: stray) and the number of its units.
type char struct {
	place int
	bytes string
	point int
	units int
}

// first: the first character of a text of one byte or more.
func first(s string) char {
	for size := 1; size <= 4 && size <= len(s); size++ {
		n := guess(s[:size])
		if !isPoint(n) || spell(n) != s[:size] {
			continue
		}
		units := 1
		if n >= 0x10000 {
			units = 2
		}
		return char{bytes: s[:size], point: n, units: units}
	}
	return char{bytes: s[:1], point: -1, units: 1}
}

// chars: all characters of a text.
func chars(s string) []char {
	var l []char
	for at := 0; at < len(s); {
		c := first(s[at:])
		c.place = at
		l = append(l, c)
		at += len(c.bytes)
	}
	return l
}

// edgeBytes are the bytes at which a rule of the spelling begins or ends.
const edgeBytes = "\x00a\x7f\x80\x8f\x90\x9f\xa0\xbf\xc0\xc1\xc2\xdf\xe0\xed\xef\xf0\xf4\xf5\xff"

// eachShort visits every text of up to four edge bytes.
func eachShort(visit func(s string)) {
	var grow func(s string)
	grow = func(s string) {
		visit(s)
		if len(s) == 4 {
			return
		}
		for i := 0; i < len(edgeBytes); i++ {
			grow(s + edgeBytes[i:i+1])
		}
	}
	grow("")
}

// pieces are characters of all sizes, the edges of each, and what is none.
func pieces() []string {
	return []string{
		"a", "\x00", "\x7f", "\u0080", "\u00e9", "\u07ff", "\u0800", "\u20ac", "\ud7ff", "\ue000", "\ufffd", "\uffff",
		"\U00010000", "\U0001d11e", "\U0010ffff",
		"\x80", "\xbf", "\xc3", "\xc0\x80", "\xe2", "\xe2\x82", "\xe0\x9f\xbf", "\xed\xa0\x80", "\xed\xbf\xbf", "\xed\xa0\xb4\xed\xb4\x9e",
		"\xf0", "\xf0\x9d", "\xf0\x9d\x84", "\xf0\x8f\xbf\xbf", "\xf4\x90\x80\x80", "\xf5\x80\x80\x80", "\xff",
	}
}

// rows: the empty text, and every row of one to three pieces.
func rows() []string {
	l := []string{""}
	begin := 0
	for range 3 {
		end := len(l)
		for _, s := range l[begin:end] {
			for _, p := range pieces() {
				l = append(l, s+p)
			}
		}
		begin = end
	}
	return l
}

// eachText visits the short texts, and the rows.
func eachText(visit func(s string)) {
	eachShort(visit)
	for _, s := range rows() {
		visit(s)
	}
}
