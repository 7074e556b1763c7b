package frame

import (
	"strconv"
	"strings"

	"rostrum/api"
)

const (
	lineEnd    = "\r\n"
	nameEnd    = ":"
	blanks     = " \t"
	lengthName = "content-length"
)

// length is the length of the head of these lines, which have their ends between them: ErrHead if the head is not valid, ErrTooLarge if its length is above the limit.
func length(lines string) (int, api.Errno) {
	var values []string
	for _, line := range strings.Split(lines, lineEnd) {
		name, value, found := strings.Cut(line, nameEnd)
		if !found || !isName(name) {
			return 0, api.ErrHead
		}
		if strings.EqualFold(name, lengthName) {
			values = append(values, strings.Trim(value, blanks))
		}
	}
	if len(values) != 1 || !isNumber(values[0]) {
		return 0, api.ErrHead
	}
	size, err := strconv.Atoi(values[0])
	// A number that no int holds is one, too, and above the limit.
	if err != nil || size > api.MaxJSON {
		return 0, api.ErrTooLarge
	}
	return size, api.OK
}

// isName says whether a text is the name of a line.
func isName(s string) bool {
	for _, b := range []byte(s) {
		if !isLetter(b) && !isDigit(b) && b != '-' {
			return false
		}
	}
	return s != ""
}

// isNumber says whether a text is a number from 0 on, of any size.
func isNumber(s string) bool {
	for _, b := range []byte(s) {
		if !isDigit(b) {
			return false
		}
	}
	return s == "0" || s != "" && s[0] != '0'
}

func isLetter(b byte) bool {
	return 'a' <= b && b <= 'z' || 'A' <= b && b <= 'Z'
}

func isDigit(b byte) bool {
	return '0' <= b && b <= '9'
}
