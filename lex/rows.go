package lex

import (
	"strings"

	"rostrum/api"
	"rostrum/utf"
)

// row reads the token at the beginning of a text, if it is one of the row: its Kind, and the number of its bytes; 0 if it is none.
type row func(text string) (kind uint8, size int)

// rows are the rows of the chapter's table, in their order, but for the last one.
func rows() []row {
	return []row{blank, remark, nameBut(words()), number, quoted, twoByteSign, sign}
}

// next reads the token at the beginning of a text of one byte or more.
func next(table []row, text string) (uint8, int) {
	for _, read := range table {
		if kind, size := read(text); size > 0 {
			return kind, size
		}
	}
	_, size := utf.Rune(text)
	return api.Bad, size
}

// The brackets of a Remark.
const (
	remarkStart = "(*"
	remarkEnd   = "*)"
)

// twoByteSigns stand before the Signs of one byte, with which most of them begin.
var twoByteSigns = [...]string{"->", "::", "<>", "<=", ">=", "+.", "-.", "*.", "/.", "&&", "||"}

// signs are the Signs of one byte, except _ , which begins as a Name.
const signs = "()[],;|=<>+-*/^@"

// words are the Kinds of what begins as a Name and is none.
func words() map[string]uint8 {
	return map[string]uint8{
		"_":     api.Sign,
		"let":   api.Word,
		"rec":   api.Word,
		"in":    api.Word,
		"fun":   api.Word,
		"if":    api.Word,
		"then":  api.Word,
		"else":  api.Word,
		"match": api.Word,
		"with":  api.Word,
		"true":  api.Word,
		"false": api.Word,
		"mod":   api.Word,
	}
}

func blank(text string) (uint8, int) {
	return api.Blank, leading(text, isBlank)
}

// remark counts the brackets that are open; none of them overlap: in (*) the * belongs to the first one alone.
func remark(text string) (uint8, int) {
	if !strings.HasPrefix(text, remarkStart) {
		return 0, 0
	}
	open := 0
	for at := 0; at < len(text); {
		switch rest := text[at:]; {
		case strings.HasPrefix(rest, remarkStart):
			open++
			at += len(remarkStart)
		case strings.HasPrefix(rest, remarkEnd):
			open--
			at += len(remarkEnd)
		default:
			at++
		}
		if open == 0 {
			return api.Remark, at
		}
	}
	return api.Bad, len(text)
}

// nameBut reads Names, and what is written like one and has another Kind.
func nameBut(others map[string]uint8) row {
	return func(text string) (uint8, int) {
		start := leading(text, startsName)
		if start == 0 {
			return 0, 0
		}
		size := start + leading(text[start:], isInName)
		if kind, other := others[text[:size]]; other {
			return kind, size
		}
		return api.Name, size
	}
}

func twoByteSign(text string) (uint8, int) {
	for _, s := range twoByteSigns {
		if strings.HasPrefix(text, s) {
			return api.Sign, len(s)
		}
	}
	return 0, 0
}

func sign(text string) (uint8, int) {
	return api.Sign, oneOf(text, signs)
}

// leading is how many bytes at the beginning of a text belong to something.
func leading(text string, belongs func(b byte) bool) int {
	size := 0
	for size < len(text) && belongs(text[size]) {
		size++
	}
	return size
}

// oneOf is 1 if a text begins with one of some bytes, otherwise 0.
func oneOf(text, bytes string) int {
	if text == "" || strings.IndexByte(bytes, text[0]) < 0 {
		return 0
	}
	return 1
}

func isBlank(b byte) bool {
	return b == ' ' || b == '\t' || b == '\n' || b == '\r'
}

func startsName(b byte) bool {
	return 'a' <= b && b <= 'z' || b == '_'
}

func isInName(b byte) bool {
	return startsName(b) || 'A' <= b && b <= 'Z' || isDigit(b) || b == '\''
}

func isDigit(b byte) bool {
	return '0' <= b && b <= '9'
}
