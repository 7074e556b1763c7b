package lex

import (
	"strconv"
	"strings"

	"rostrum/api"
)

// Within these bounds both the digits and the power of 10 are exact as floats, so that the value of a Float is rounded once only.
const (
	mostDigits = 15
	mostPower  = 22
)

// escapable are the bytes that a \ may be followed by in a Text.
const escapable = `nt\"`

const quote = `"`

// number reads an Int, a Float, or what is Bad as its value would not be exact.
func number(text string) (uint8, int) {
	whole := leading(text, isDigit)
	if whole == 0 {
		return 0, 0
	}
	rest, pointed := strings.CutPrefix(text[whole:], ".")
	if !pointed {
		return api.Int, whole
	}
	fraction := leading(rest, isDigit)
	exponent := exponentOf(rest[fraction:])
	size := whole + 1 + fraction + len(exponent)
	if whole+fraction > mostDigits || !inReach(exponent, fraction) {
		return api.Bad, size
	}
	return api.Float, size
}

// exponentOf is the exponent at the beginning of a text, with its e; without digits it is none.
func exponentOf(text string) string {
	mark := oneOf(text, "eE")
	start := mark + oneOf(text[mark:], "+-")
	digits := leading(text[start:], isDigit)
	if mark == 0 || digits == 0 {
		return ""
	}
	return text[:start+digits]
}

// inReach says whether a Float may have this exponent with so many digits after its point.
func inReach(exponent string, fraction int) bool {
	power := 0
	if exponent != "" {
		n, err := strconv.Atoi(exponent[1:])
		// What no int holds is far out of reach.
		if err != nil {
			return false
		}
		power = n
	}
	return fraction-mostPower <= power && power <= fraction+mostPower
}

// quoted reads a Text, or what begins as one and is Bad.
func quoted(text string) (uint8, int) {
	at := oneOf(text, quote)
	if at == 0 {
		return 0, 0
	}
	for ; at < len(text); at++ {
		switch text[at] {
		case '"':
			return api.Text, at + 1
		case '\n':
			return api.Bad, at
		case '\\':
			at++
			if oneOf(text[at:], escapable) == 0 {
				return api.Bad, at + spoilt(text[at:])
			}
		}
	}
	return api.Bad, len(text)
}

// spoilt is how many bytes more belong to a Bad token behind a \ that may not stand there: any ahead of the line's end, up to a quote.
func spoilt(text string) int {
	size := leading(text, func(b byte) bool { return b != '"' && b != '\n' })
	return size + oneOf(text[size:], quote)
}
