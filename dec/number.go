package dec

import (
	"cmp"
	"strconv"
	"strings"

	"rostrum/api"
)

// zero are the digits of 0: the only ones with a zero at their ends.
const zero = "0"

// number is a decimal's value: its digits as an integer, times a power of 10. The digits of all values but 0 have no zeros at their ends, and 0 has neither a sign nor a power, so that equal values are equal structs.
type number struct {
	negative bool
	digits   string
	power    int64
}

// read is the value of the text of a decimal.
func read(s string) (number, api.Errno) {
	p := parser{rest: s}
	if !p.run() {
		return number{}, api.ErrForm
	}
	n := p.value()
	if len(n.digits) > api.MaxDigits || n.power < -api.MaxExp || n.power > api.MaxExp {
		return number{}, api.ErrTooLarge
	}
	return n, api.OK
}

// text is the canonical form.
func (n number) text() string {
	if n.power == 0 {
		return n.integer()
	}
	return n.integer() + "e" + strconv.FormatInt(n.power, 10)
}

// integer are the digits with their sign; copied, as a part of an argument would keep the whole of it in memory.
func (n number) integer() string {
	if n.negative {
		return "-" + n.digits
	}
	return strings.Clone(n.digits)
}

// compare is -1, 0 or 1, as a value is below, equal to or above another one.
func (n number) compare(other number) int {
	if n.sign() != other.sign() {
		return cmp.Compare(n.sign(), other.sign())
	}
	return n.sign() * n.compareSizes(other)
}

// sign is -1, 0 or 1, as the value is below, equal to or above 0.
func (n number) sign() int {
	switch {
	case n.digits == zero:
		return 0
	case n.negative:
		return -1
	default:
		return 1
	}
}

// compareSizes compares two values that are not 0, without their signs.
func (n number) compareSizes(other number) int {
	if n.top() != other.top() {
		return cmp.Compare(n.top(), other.top())
	}
	// From the same place on, the first digit that differs decides; of digits that go on, the last one is not 0.
	return strings.Compare(n.digits, other.digits)
}

// top is the place of the first digit.
func (n number) top() int64 {
	return n.power + int64(len(n.digits))
}
