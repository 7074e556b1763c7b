package lex_test

import (
	"strconv"
	"strings"
	"testing"

	"rostrum/api"
	"rostrum/lex"
)

// P9.1: the chapter's examples, and ordinary texts.
func TestExamples(t *testing.T) {
	splits(t, "wbnbsbfbsbnbr", "let", " ", "x'", " ", "=", " ", "1.5e3", " ", "+.", " ", "_y", " ", "(* a (* b *) *)")
	splits(t, "t", `"a\n"`)
	splits(t, "xbnx", `"a\q"`, " ", "b", `"`)
	splits(t, "xb", `"a`, "\n")
	splits(t, "fn", "1.", "e")
	splits(t, "in", "1", "e5")
	splits(t, "x", "1.0e24")
	splits(t, "f", "1.0e23")
	splits(t, "f", "1.e22")
	splits(t, "x", "0.00000000000000000000001")
	splits(t, "x", "(*")
	splits(t, "x", ":")
	splits(t, "x", "'")
	splits(t, "x", "A")
	splits(t, "ss", "||", "|")
	splits(t, "wbnbsbrbf", "let", " ", "x", " ", "=", " ", "(* a *)", " ", "1.5")
	splits(t, "wbwbnbnbnbsb", "let", " ", "rec", " ", "m", " ", "f", " ", "l", " ", "=", " ")
	splits(t, "wbnbwbssssbsbnsnb", "match", " ", "l", " ", "with", " ", "[", "]", "->", "[", " ", "]", " ", "h", "::", "t", "\n")
	splits(t, "nsissiswsn", "f", "(", "1", ",", "-", "2", ")", "mod", "*.", "y")
}

// P9.1: each character below 80 alone.
func TestEveryCharacter(t *testing.T) {
	kinds := map[rune]byte{}
	for _, row := range []struct {
		kind  byte
		chars string
	}{{'b', " \t\n\r"}, {'n', "abcdefghijklmnopqrstuvwxyz"}, {'i', "0123456789"}, {'s', "_()[],;|=<>+-*/^@"}} {
		for _, char := range row.chars {
			kinds[char] = row.kind
		}
	}
	for char := rune(0); char < 0x80; char++ {
		kind, known := kinds[char]
		if !known {
			kind = 'x'
		}
		splits(t, string(kind), string(char))
	}
}

// P9.1: each two characters below 80, and each one between others.
func TestEveryPair(t *testing.T) {
	for a := rune(0); a < 0x80; a++ {
		for b := rune(0); b < 0x80; b++ {
			agrees(t, string(a)+string(b))
		}
		for _, around := range []string{"ab", "12", "1.5", "::", "\"n\"", "(**)", "  ", "\n\n"} {
			half := len(around) / 2
			agrees(t, around[:half]+string(a)+around[half:])
			agrees(t, around+string(a)+around)
		}
	}
}

// P9.1: blanks, as far as they go; what looks like one is none.
func TestBlanks(t *testing.T) {
	for _, s := range []string{" ", "\t", "\n", "\r", "\r\n", "\n\r", " \t\n\r", "    ", "\n\n\n", "\t \t "} {
		splits(t, "b", s)
		splits(t, "nbn", "a", s, "b")
		splits(t, "bwb", s, "let", s)
		splits(t, "sbs", "-", s, ">")
		splits(t, "ibi", "1", s, "2")
	}
	for _, s := range []string{"\x00", "\x08", "\x0b", "\x0c", "\x1c", "\x1f", "\x7f", "\u0085", "\u00a0", "\u1680", "\u2003", "\u2028", "\u3000", "\ufeff"} {
		splits(t, "bxb", " ", s, "\n")
	}
}

// P9.1: remarks, within one another, and without their end.
func TestRemarks(t *testing.T) {
	for _, s := range []string{"(**)", "(***)", "(****)", "(* *)", "(* a *)", "(*\n*)", "(*\x00*)", "(* \" *)", "(* \" *)", "(*\"\\*)", "(*)*)", "(* ) *)", "(* ( *)", "(*(**)*)", "(*(*)*)*)", "(*a(*b*)c(*d(*e*)*)*)", "(***(***)***)", "(*.*)", "(*\u00e9\u20ac\U0001d11e*)", "(* let x = 1.0e99 *)"} {
		splits(t, "r", s)
		splits(t, "nrn", "a", s, "b")
		splits(t, "rr", s, s)
		splits(t, "rss", s, "*", ")")
		splits(t, "sr", "(", s)
		splits(t, "r", "(*"+s+"*)")
		splits(t, "x", "(*"+s)
		splits(t, "nbx", "a", "\n", "(*"+s+"\n let b")
		splits(t, "x", s[:len(s)-1])
	}
	for _, s := range []string{"(*", "(*)", "(* *", "(* * )", "(*(*)*)", "(*(**)", "(*(* *) a", "(*\"*\")", "(*\n\n"} {
		splits(t, "x", s)
		splits(t, "bx", " ", s)
	}
	// What is not at its beginning, or divided, is no remark.
	splits(t, "sbs", "(", " ", "*")
	splits(t, "ss", "*", ")")
	splits(t, "sss", "(", ")", "*")
	splits(t, "srs", "*", "(**)", ")")
	splits(t, "t", `"(*"`)
	splits(t, "trt", `"(*"`, `(*"*)`, `"*)"`)
	for _, depth := range []int{1, 2, 100, api.MaxText / 4} {
		s := strings.Repeat("(*", depth) + strings.Repeat("*)", depth)
		splits(t, "r", s)
		splits(t, "x", s[:len(s)-1])
		splits(t, "x", s[:len(s)-2])
	}
}

// P9.1: names of all characters, and what is not in them.
func TestNames(t *testing.T) {
	for char := rune(0); char < 0x100; char++ {
		s := string(char)
		lower := char >= 'a' && char <= 'z' || char == '_'
		within := lower || char >= 'A' && char <= 'Z' || char >= '0' && char <= '9' || char == '\''
		for _, start := range []string{"a", "z", "_b", "x'", "m0", "qZ"} {
			l, _ := lex.Tokens(start + s)
			if want := start + s; within != (len(l) == 1 && l[0] == token('n', want)) || !within && l[0] != token('n', start) {
				t.Errorf("%q after a Name: %s", s, list(l))
			}
		}
		l, _ := lex.Tokens(s + "b")
		if lower != (len(l) == 1 && l[0] == token('n', s+"b")) {
			t.Errorf("%q at the beginning of a Name: %s", s, list(l))
		}
	}
	splits(t, "s", "_")
	for _, s := range []string{"_'", "__", "_a", "_A", "_1", "___", "_let", "_'_", "a''", "aB", "a_1'B"} {
		splits(t, "n", s)
		splits(t, "snsns", "(", s, "+", s, ")")
	}
	splits(t, "sbs", "_", " ", "_")
	splits(t, "sss", "_", "->", "_")
	splits(t, "sx", "_", ".")
	splits(t, "sx", "_", "\u00e9")
	splits(t, "is", "1", "_")
	splits(t, "xn", "A", "bc")
	splits(t, "nxn", "a", "\u00df", "b")
	long := strings.Repeat("a'Z_9", 1000)
	splits(t, "n", long)
}

// P9.1: each Word, with more, and with less.
func TestWords(t *testing.T) {
	words := []string{"let", "rec", "in", "fun", "if", "then", "else", "match", "with", "true", "false", "mod"}
	for _, word := range words {
		splits(t, "w", word)
		splits(t, "wsw", word, "=", word)
		splits(t, "wbw", word, " ", word)
		splits(t, "wx", word, "\u00e9")
		for _, more := range []string{"a", "s", "A", "0", "7", "_", "'", "let", "in"} {
			splits(t, "n", word+more)
		}
		for _, ahead := range []string{"a", "_", "let", "in"} {
			splits(t, "n", ahead+word)
		}
		splits(t, "iw", "1", word)
		splits(t, "xw", "A", word)
		splits(t, "xn", strings.ToUpper(word[:1]), word[1:])
		for size := 1; size < len(word); size++ {
			splits(t, "n", word[:size])
		}
	}
	for _, s := range []string{"and", "or", "not", "of", "do", "end", "type", "begin", "when", "as", "fst", "snd", "float", "unit", "function"} {
		splits(t, "n", s)
	}
}

// P9.1: Ints and Floats, and where they end.
func TestNumbers(t *testing.T) {
	for _, s := range []string{"0", "00", "7", "0123456789", strings.Repeat("9", 16), strings.Repeat("0", 400)} {
		splits(t, "i", s)
		splits(t, "in", s, "e5")
		splits(t, "in", s, "e")
		splits(t, "ixi", s, "E", "5")
		splits(t, "is", s, "_")
		splits(t, "ix", s, "'")
		splits(t, "sis", "-", s, "-")
		splits(t, "isi", s, "+.", s)
	}
	for _, s := range []string{"0.", "1.", "1.5", "00.50", "1.e5", "1.E5", "1.e+5", "1.e-5", "1.E+5", "1.E-5", "1.5e3", "1.5E03", "1.5e+03", "1.5e-03", "123456789012345.", "12345.6789012345"} {
		splits(t, "f", s)
		splits(t, "fx", s, ".")
		splits(t, "fxi", s, ".", "5")
		splits(t, "fn", s, "e")
		splits(t, "fn", s, "x1")
		if strings.ContainsAny(s, "eE") {
			splits(t, "fnsi", s, "e", "+", "5")
			splits(t, "fn", s, "e5")
		}
		splits(t, "fs", s, "-")
		splits(t, "fsf", s, "+.", s)
	}
	splits(t, "fn", "1.", "e")
	splits(t, "fns", "1.", "e", "+")
	splits(t, "fns", "1.5", "e", "-")
	splits(t, "fnss", "1.5", "e", "+", "-")
	splits(t, "fnssi", "1.5", "e", "+", "-", "5")
	splits(t, "fnbi", "1.5", "e", " ", "5")
	splits(t, "fnsbi", "1.5", "e", "-", " ", "5")
	splits(t, "fn", "1.", "ee5")
	splits(t, "fn", "1.", "e_5")
	splits(t, "fx", "1.", "E")
	splits(t, "fxs", "1.", "E", "-")
	splits(t, "fn", "1.5e3", "e3")
	splits(t, "fx", "1.5e3", ".")
	splits(t, "xi", ".", "5")
	splits(t, "xin", ".", "5", "e3")
	splits(t, "ibxi", "1", " ", ".", "5")
	splits(t, "xn", "1.0e24", "e1")
	splits(t, "xxi", "1.0e24", ".", "5")
	splits(t, "xns", "1234567890123456.", "e", "+")
}

// P9.1: at most 15 digits before the e, whichever they are; an exponent less the digits after the point from -22 to 22.
func TestFloatBounds(t *testing.T) {
	kind := func(s string, good bool) {
		t.Helper()
		letter := map[bool]string{true: "f", false: "x"}[good]
		splits(t, letter, s)
		splits(t, "s"+letter+"b", "-", s, " ")
	}
	for digits := 1; digits <= 18; digits++ {
		for _, s := range []string{strings.Repeat("9", digits), strings.Repeat("0", digits), strings.Repeat("0", digits-1) + "1", "1" + strings.Repeat("0", digits-1)} {
			for whole := 1; whole <= digits; whole++ {
				kind(s[:whole]+"."+s[whole:], digits <= 15)
				for power := -25 + digits - whole; power <= 25+digits-whole; power++ {
					apart := power - (digits - whole)
					good := digits <= 15 && apart >= -22 && apart <= 22
					kind(s[:whole]+"."+s[whole:]+"e"+strconv.Itoa(power), good)
				}
			}
		}
	}
	for _, x := range []struct {
		s    string
		good bool
	}{
		{"1.e22", true}, {"1.e23", false}, {"1.e-22", true}, {"1.e-23", false}, {"1.E+22", true}, {"1.E+23", false},
		{"1.0e23", true}, {"1.0e24", false}, {"1.0e-21", true}, {"1.0e-22", false},
		{"0.e22", true}, {"0.e23", false}, {"0.0e-22", false},
		{"1.23456789012345e36", true}, {"1.23456789012345e37", false}, {"1.2345678901234e35", true}, {"1.2345678901234e36", false}, {"0.00000000000001e-8", true}, {"0.00000000000001e-9", false},
		{"123456789012345.e22", true}, {"1234567890123456.e0", false}, {"000000000000000.", true}, {"0000000000000000.", false}, {"000000000000001.0", false}, {"00000000000001.0", true},
		{"1.e-0", true}, {"1.e+0", true}, {"1.e00", true},
	} {
		kind(x.s, x.good)
	}
}

// P9.1: exponents of very many digits.
func TestLongExponents(t *testing.T) {
	for _, zeros := range []int{1, 10, 18, 19, 20, 100, 65000} {
		ahead := strings.Repeat("0", zeros)
		for _, sign := range []string{"", "+", "-"} {
			splits(t, "f", "1.e"+sign+ahead)
			splits(t, "f", "1.e"+sign+ahead+"22")
			splits(t, "x", "1.e"+sign+ahead+"23")
			splits(t, "x", "1.e"+sign+"1"+ahead+"00")
			splits(t, "xn", "1.e"+sign+"1"+ahead+"00", "e")
		}
		splits(t, "f", "1.0E"+ahead+"23")
		splits(t, "x", "1.0E-"+ahead+"22")
	}
	// Numbers at which 8, 16, 32 and 64 bits are at their end, and that would be small if they wrapped round.
	for _, s := range []string{"127", "128", "255", "256", "261", "32768", "65536", "65541", "2147483647", "2147483648", "4294967296", "4294967301", "9223372036854775807", "9223372036854775808", "18446744073709551615", "18446744073709551616", "18446744073709551621", "92233720368547758080", "340282366920938463463374607431768211456"} {
		for _, sign := range []string{"", "+", "-"} {
			splits(t, "x", "1.e"+sign+s)
			splits(t, "x", "1.00000000000000e"+sign+s)
		}
	}
}

// P9.1: Texts, each byte after \ , and where a Bad one ends.
func TestTexts(t *testing.T) {
	for _, s := range []string{`""`, `" "`, `"a"`, `"\n"`, `"\t"`, `"\\"`, `"\""`, `"\\\""`, `"\"\""`, `"a\nb\tc\\d\"e"`, "\"\r\"", "\"\t\"", "\"\x00\x7f\"", `"'"`, `"(*"`, `"/"`, "\"\u00e9\u20ac\U0001d11e\""} {
		splits(t, "t", s)
		splits(t, "tt", s, s)
		splits(t, "ntn", "a", s, "b")
		splits(t, "tx", s, `"`)
		splits(t, "xbn", s[:len(s)-1], "\n", "a")
		splits(t, "xb", s[:len(s)-1], "\n\n")
		splits(t, "x", s[:len(s)-1])
		splits(t, "xbx", s[:len(s)-1], "\n", `"`)
	}
	for char := rune(0); char < 0x110; char++ {
		if char == '\n' {
			continue
		}
		wrong := `"a\` + string(char)
		if strings.ContainsRune(`nt\"`, char) {
			splits(t, "tn", wrong+`"`, "b")
			splits(t, "t", wrong+`b"`)
			splits(t, "tnx", wrong+`\\"`, "b", `"`)
			splits(t, "x", wrong+`\"`)
			splits(t, "xbnx", wrong, "\n", "b", `"`)
			splits(t, "x", wrong)
			continue
		}
		splits(t, "x", wrong)
		splits(t, "x", wrong+`"`)
		splits(t, "xn", wrong+`"`, "b")
		splits(t, "xnx", wrong+` c\"`, "b", `"`)
		splits(t, "xnx", wrong+`\\"`, "b", `"`)
		splits(t, "xt", wrong+`"`, `""`)
		splits(t, "xbnx", wrong+` (* c`, "\n", "b", `"`)
		splits(t, "xbt", wrong+`\`, "\n", `""`)
		splits(t, "x", wrong+` c\n\q`)
		splits(t, "xb", wrong+"\r", "\n")
		splits(t, "x", wrong+"\r\"")
	}
	splits(t, "xb", `"a\`, "\n")
	splits(t, "xbx", `"a\`, "\n", `"`)
	splits(t, "xbnx", `"a\\\`, "\n", "b", `"`)
	splits(t, "x", `"a\`)
	splits(t, "x", `"\`)
	splits(t, "x", `"`)
	splits(t, "xb", `"`, "\n")
	splits(t, "xbxb", `"`, "\n", `"`, "\n")
	splits(t, "xt", `"\q"`, `"\""`)
	splits(t, "xx", `"\q"`, `"\"`)
	splits(t, "xnt", `\`, "n", `""`)
}

// P9.1: Signs of two bytes ahead of those of one, of the same and of other bytes, whatever follows.
func TestSigns(t *testing.T) {
	double := []string{"->", "::", "<>", "<=", ">=", "+.", "-.", "*.", "/.", "&&", "||"}
	single := []string{"(", ")", "[", "]", ",", ";", "|", "=", "<", ">", "+", "-", "*", "/", "^", "@"}
	for _, s := range double {
		splits(t, "s", s)
		splits(t, "ss", s, s)
		splits(t, "nsn", "a", s, "b")
		splits(t, "isi", "1", s, "2")
		splits(t, "sx", s, "\u20ac")
	}
	for _, s := range single {
		splits(t, "s", s)
		splits(t, "nsn", "a", s, "b")
		splits(t, "sbs", s, " ", s)
		splits(t, "ss", s, "_")
	}
	splits(t, "xbx", ":", " ", ":")
	splits(t, "xs", "&", "|")
	splits(t, "sxn", "&&", "&", "a")
	splits(t, "sx", "::", ":")
	splits(t, "ssx", "::", "=", ":")
	splits(t, "ss", "<>", ">")
	splits(t, "ss", "<", "<>")
	splits(t, "ss", "<=", ">")
	splits(t, "ss", "<=", "=")
	splits(t, "ss", ">", "<>")
	splits(t, "ss", ">=", "=")
	splits(t, "ss", "=", "<")
	splits(t, "ss", "=", ">=")
	splits(t, "ss", "-", "->")
	splits(t, "ss", "->", ">")
	splits(t, "ss", "-.", ">")
	splits(t, "sx", "-.", ".")
	splits(t, "ss", "*", "*.")
	splits(t, "si", "+.", "5")
	splits(t, "xs", ".", "+")
	splits(t, "ss", "|", "]")
	splits(t, "sss", "[", "|", "]")
	splits(t, "sss", "||", "||", "|")
	splits(t, "ss", "*.", ")")
	splits(t, "ss", "+", "-")
}

// P9.1: rows of one to three of the bytes of Signs, and of any two that can be seen.
func TestSignRows(t *testing.T) {
	eachText("()[],;|=<>+-*/^@:&._!", 3, func(s string) { agrees(t, s) })
	visible := ""
	for char := rune(0x20); char < 0x7F; char++ {
		visible += string(char)
	}
	eachText(visible, 2, func(s string) { agrees(t, s) })
}

// P9.1: characters of two, three and four bytes, inside and outside of Texts and Remarks; control bytes.
func TestCharacters(t *testing.T) {
	for _, char := range []string{"\u0080", "\u00aa", "\u00e9", "\u00ff", "\u03bb", "\u07ff", "\u0800", "\u20ac", "\ud7ff", "\ue000", "\ufeff", "\ufffd", "\uffff", "\U00010000", "\U0001d11e", "\U0001f600", "\U0010ffff", "\x00", "\x01", "\x08", "\x0b", "\x0c", "\x0e", "\x1b", "\x1f", "\x7f"} {
		splits(t, "x", char)
		splits(t, "xx", char, char)
		splits(t, "nxn", "a", char, "b")
		splits(t, "ixi", "1", char, "2")
		splits(t, "fxfx", "1.", char, "2.e5", char)
		splits(t, "bxb", " ", char, "\n")
		splits(t, "sxs", "-", char, ">")
		splits(t, "xx", "&", char)
		splits(t, "rxr", "(*"+char+"*)", char, "(*"+char+char+"*)")
		splits(t, "x", "(*"+char)
		splits(t, "txt", "\""+char+"\"", char, "\""+char+char+"\"")
		splits(t, "xb", "\""+char, "\n")
		splits(t, "x", "\""+char)
		splits(t, "xn", "\"\\"+char+"\"", "a")
		splits(t, "xbx", "\"\\q"+char, "\n", char)
	}
}
