package json

import "strings"

// What stands after \ for a byte, side by side with these bytes.
const (
	letters = `"\bfnrt`
	meant   = "\"\\\b\f\n\r\t"
)

// firstPlain is the first byte that may represent itself in a String.
const firstPlain = 0x20

const hexDigits = "0123456789abcdef"

// plain says whether a byte represents itself in a String.
func plain(b byte) bool {
	return b >= firstPlain && b != '"' && b != '\\'
}

// escape is how a byte that is not plain is written.
func escape(b byte) string {
	if i := strings.IndexByte(meant, b); i >= 0 {
		return `\` + letters[i:i+1]
	}
	return `\u00` + hexDigits[b>>4:b>>4+1] + hexDigits[b&0xF:b&0xF+1]
}
