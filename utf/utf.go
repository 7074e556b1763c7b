// Package utf is layer 1: characters of a text, as bytes and as units of 16 bits; see shared/doc/01-utf.md.
package utf

import (
	"iter"
	"unicode/utf8"

	"rostrum/api"
)

// The bounds of code points, and of the units that stand for one in a pair.
const (
	lastPoint = 0x10FFFF
	firstWide = 0x10000 // from here on a code point has two units
	firstHigh = 0xD800
	lastHigh  = 0xDBFF
	firstLow  = 0xDC00
	lastLow   = 0xDFFF
	lowBits   = 10
)

// Valid says whether a text is valid.
func Valid(s string) bool {
	for _, char := range characters(s) {
		if stray(char) {
			return false
		}
	}
	return true
}

// Len16 is how many units a text has.
func Len16(s string) int {
	units := 0
	for _, char := range characters(s) {
		units += width(char)
	}
	return units
}

// Unit is how many units stand ahead of a byte.
func Unit(s string, at int) (int, api.Errno) {
	if at < 0 || at > len(s) {
		return 0, api.ErrArg
	}
	units, end := 0, 0
	for place, char := range characters(s) {
		if place >= at {
			break
		}
		units += width(char)
		end = place + len(char)
	}
	if end != at {
		return 0, api.ErrPos
	}
	return units, api.OK
}

// Byte is the byte ahead of which so many units stand.
func Byte(s string, unit int) (int, api.Errno) {
	if unit < 0 {
		return 0, api.ErrArg
	}
	units, end := 0, 0
	for place, char := range characters(s) {
		if units >= unit {
			break
		}
		units += width(char)
		end = place + len(char)
	}
	if units < unit {
		return 0, api.ErrArg
	}
	if units > unit {
		return 0, api.ErrPos
	}
	return end, api.OK
}

// Rune is the first character's code point, and how many bytes it has.
func Rune(s string) (int, int) {
	point, size := utf8.DecodeRuneInString(s)
	// The library's sign for a fault is a code point too, but that one has three bytes.
	if point == utf8.RuneError && size <= 1 {
		return -1, size
	}
	return int(point), size
}

// Put are a code point's bytes.
func Put(point int) string {
	if !isPoint(point) {
		return ""
	}
	return string(rune(point))
}

// Pair is the code point of two units.
func Pair(high, low int) (int, bool) {
	if high < firstHigh || high > lastHigh || low < firstLow || low > lastLow {
		return 0, false
	}
	return firstWide + (high-firstHigh)<<lowBits + (low - firstLow), true
}

// Halves are a code point's two units.
func Halves(point int) (int, int) {
	if point < firstWide || point > lastPoint {
		return 0, 0
	}
	rest := point - firstWide
	return firstHigh + rest>>lowBits, firstLow + rest&(1<<lowBits-1)
}

// characters visits the characters of a text: the place and the bytes of each one.
func characters(s string) iter.Seq2[int, string] {
	return func(yield func(int, string) bool) {
		for at := 0; at < len(s); {
			_, size := Rune(s[at:])
			if !yield(at, s[at:at+size]) {
				return
			}
			at += size
		}
	}
}

// stray says whether a character is a byte that belongs to no code point.
func stray(char string) bool {
	return len(char) == 1 && char[0] >= utf8.RuneSelf
}

// width is how many units a character has: just the code points of four bytes have two.
func width(char string) int {
	if len(char) == utf8.UTFMax {
		return 2
	}
	return 1
}

// isPoint holds the whole number against the bounds, as a conversion to a rune would wrap round.
func isPoint(n int) bool {
	if n < 0 || n > lastPoint {
		return false
	}
	return n < firstHigh || n > lastLow
}
