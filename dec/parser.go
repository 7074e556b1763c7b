package dec

import "strings"

// farAway is an exponent that no text is long enough to make up for. No more digits are added to one that reaches it, as it would wrap round.
const farAway = int64(1) << 40

// parser takes the text of a decimal apart.
type parser struct {
	rest     string // what is still to be read
	negative bool
	whole    string // the digits before the point
	fraction string // the digits after it
	below    bool   // the exponent is negative
	exponent string
	done     bool // the whole text was one of a decimal
}

// state reads its part of the text and answers the next state: none at the end, and none where the text goes wrong.
type state func() state

// run goes from state to state, and says whether the text is one of a decimal.
func (p *parser) run() bool {
	for next := state(p.readSign); next != nil; {
		next = next()
	}
	return p.done
}

func (p *parser) readSign() state {
	p.negative = p.take("-")
	return p.readWhole
}

func (p *parser) readWhole() state {
	p.whole = p.takeDigits()
	if p.whole == "" || p.whole[0] == '0' && len(p.whole) > 1 {
		return nil
	}
	return p.readPoint
}

func (p *parser) readPoint() state {
	if p.take(".") {
		return p.readFraction
	}
	return p.readMark
}

func (p *parser) readFraction() state {
	p.fraction = p.takeDigits()
	if p.fraction == "" {
		return nil
	}
	return p.readMark
}

func (p *parser) readMark() state {
	if p.take("e") || p.take("E") {
		return p.readExponentSign
	}
	return p.readEnd
}

func (p *parser) readExponentSign() state {
	p.below = p.take("-")
	if !p.below {
		p.take("+")
	}
	return p.readExponent
}

func (p *parser) readExponent() state {
	p.exponent = p.takeDigits()
	if p.exponent == "" {
		return nil
	}
	return p.readEnd
}

func (p *parser) readEnd() state {
	p.done = p.rest == ""
	return nil
}

// take reads a sign, if it comes next.
func (p *parser) take(sign string) bool {
	rest, found := strings.CutPrefix(p.rest, sign)
	p.rest = rest
	return found
}

// takeDigits reads the digits that come next, as many as there are.
func (p *parser) takeDigits() string {
	end := 0
	for end < len(p.rest) && isDigit(p.rest[end]) {
		end++
	}
	digits := p.rest[:end]
	p.rest = p.rest[end:]
	return digits
}

func isDigit(b byte) bool {
	return '0' <= b && b <= '9'
}

// value is what was read.
func (p *parser) value() number {
	all := strings.TrimLeft(p.whole+p.fraction, "0")
	digits := strings.TrimRight(all, "0")
	if digits == "" {
		return number{digits: zero}
	}
	cut := len(all) - len(digits)
	return number{negative: p.negative, digits: digits, power: p.power() - int64(len(p.fraction)) + int64(cut)}
}

// power is the exponent, or farAway and more if it is farther away than that.
func (p *parser) power() int64 {
	size := int64(0)
	for i := 0; i < len(p.exponent) && size < farAway; i++ {
		size = size*10 + int64(p.exponent[i]-'0')
	}
	if p.below {
		return -size
	}
	return size
}
