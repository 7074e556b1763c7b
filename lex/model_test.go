package lex_test

import (
	"math/big"
	"math/rand/v2"
	"regexp"
	"slices"
	"strconv"
	"strings"
	"testing"

	"rostrum/api"
	"rostrum/lex"
)

// The chapter's table as regular expressions and big numbers, so that the package is held against something that shares no code with it.

var (
	blankForm  = regexp.MustCompile(`^[ \t\n\r]+`)
	bracket    = regexp.MustCompile(`\(\*|\*\)`)
	nameForm   = regexp.MustCompile(`^[a-z_][a-zA-Z0-9_']*`)
	wordForm   = regexp.MustCompile(`^(let|rec|in|fun|if|then|else|match|with|true|false|mod)$`)
	numberForm = regexp.MustCompile(`^([0-9]+)(?:(\.)([0-9]*)(?:[eE]([+-]?[0-9]+))?)?`)
	textForm   = regexp.MustCompile(`^"(?:[^"\\\n]|\\[nt"\\])*"`)
	spoiltForm = regexp.MustCompile(`^"(?:[^"\\\n]|\\[nt"\\])*(?:\\[^"\n]*"?)?`)
	signForm   = regexp.MustCompile(`^(?:->|::|<>|<=|>=|[-+*/]\.|&&|\|\||[][(),;|=<>+*/^@-])`)
	charForm   = regexp.MustCompile(`(?s)^.`)
)

// first: the first token of a text of one byte or more, by the first row that applies.
func first(s string) api.Token {
	if strings.HasPrefix(s, "(*") {
		return remarkOf(s)
	}
	if b := blankForm.FindString(s); b != "" {
		return api.Token{Kind: api.Blank, Text: b}
	}
	if name := nameForm.FindString(s); name == "_" {
		return api.Token{Kind: api.Sign, Text: name}
	} else if wordForm.MatchString(name) {
		return api.Token{Kind: api.Word, Text: name}
	} else if name != "" {
		return api.Token{Kind: api.Name, Text: name}
	}
	if parts := numberForm.FindStringSubmatch(s); parts != nil {
		return api.Token{Kind: numberKind(parts), Text: parts[0]}
	}
	if s[0] == '"' {
		if whole := textForm.FindString(s); whole != "" {
			return api.Token{Kind: api.Text, Text: whole}
		}
		return api.Token{Kind: api.Bad, Text: spoiltForm.FindString(s)}
	}
	if sign := signForm.FindString(s); sign != "" {
		return api.Token{Kind: api.Sign, Text: sign}
	}
	return api.Token{Kind: api.Bad, Text: charForm.FindString(s)}
}

// remarkOf: all brackets that do not overlap, from the left.
func remarkOf(s string) api.Token {
	open := 0
	for _, place := range bracket.FindAllStringIndex(s, -1) {
		if s[place[0]] == '(' {
			open++
		} else {
			open--
		}
		if open == 0 {
			return api.Token{Kind: api.Remark, Text: s[:place[1]]}
		}
	}
	return api.Token{Kind: api.Bad, Text: s}
}

// numberKind: of digits, a point, digits, an exponent.
func numberKind(parts []string) uint8 {
	if parts[2] == "" {
		return api.Int
	}
	power := new(big.Int)
	if parts[4] != "" {
		power.SetString(strings.TrimPrefix(parts[4], "+"), 10)
	}
	power.Sub(power, big.NewInt(int64(len(parts[3]))))
	if len(parts[1]+parts[3]) > 15 || power.CmpAbs(big.NewInt(22)) > 0 {
		return api.Bad
	}
	return api.Float
}

// model: all tokens of a text.
func model(s string) []api.Token {
	var l []api.Token
	for s != "" {
		l = append(l, first(s))
		s = s[len(l[len(l)-1].Text):]
	}
	return l
}

// letters of Kinds, for short lists of them.
const letters = "?brwniftsx"

// kindsOf: the letters of tokens' Kinds.
func kindsOf(l []api.Token) string {
	s := ""
	for _, t := range l {
		s += letters[t.Kind : t.Kind+1]
	}
	return s
}

// token: one of the Kind that a letter stands for.
func token(letter byte, text string) api.Token {
	return api.Token{Kind: uint8(strings.IndexByte(letters, letter)), Text: text}
}

// short is a text for a message.
func short(s string) string {
	if len(s) > 80 {
		s = s[:40] + ".." + s[len(s)-40:] + ": " + strconv.Itoa(len(s)) + " bytes"
	}
	return strconv.Quote(s)
}

// list: tokens for a message.
func list(l []api.Token) string {
	s := ""
	for _, t := range l[:min(len(l), 20)] {
		s += " " + letters[t.Kind:t.Kind+1] + short(t.Text)
	}
	return "[" + strconv.Itoa(len(l)) + s + "]"
}

// splits: these texts, side by side, are tokens of the Kinds that the letters stand for.
func splits(t *testing.T, kinds string, texts ...string) {
	t.Helper()
	if len(kinds) != len(texts) {
		t.Fatalf("%d kinds of %d texts", len(kinds), len(texts))
	}
	var want []api.Token
	for i, text := range texts {
		want = append(want, token(kinds[i], text))
	}
	s := strings.Join(texts, "")
	if l, e := lex.Tokens(s); e != api.OK || !slices.Equal(l, want) {
		t.Errorf("Tokens(%s): %s, %v, not %s", short(s), list(l), e, list(want))
	}
}

// agrees holds Tokens and One of a text against the model.
func agrees(t *testing.T, s string) []api.Token {
	t.Helper()
	want := model(s)
	l, e := lex.Tokens(s)
	if e != api.OK || !slices.Equal(l, want) {
		t.Fatalf("Tokens(%s): %s, %v, not %s", short(s), list(l), e, list(want))
	}
	one, e := lex.One(s)
	if len(want) == 1 && (one != want[0] || e != api.OK) || len(want) != 1 && (one != api.Token{} || e != api.ErrForm) {
		t.Fatalf("One(%s): %s, %v", short(s), list([]api.Token{one}), e)
	}
	return l
}

// eachText visits every text of up to so many of these characters.
func eachText(chars string, size int, visit func(s string)) {
	var grow func(s string, size int)
	grow = func(s string, size int) {
		visit(s)
		if size == 0 {
			return
		}
		for _, char := range chars {
			grow(s+string(char), size-1)
		}
	}
	grow("", size)
}

// source makes the same numbers in every run.
func source() *rand.Rand {
	return rand.New(rand.NewPCG(9, 2026))
}

// pieces are texts at which a rule begins, ends or changes: tokens of all kinds, parts of them, and what is none.
func pieces() []string {
	return slices.Concat(
		[]string{" ", "\t", "\n", "\r", "\r\n", "\n\n ", "   "},
		[]string{"(*", "*)", "(**)", "(* a *)", "(*(**)*)", "(*\"*)", "(*\n*)", "(*\u00e9*)", "(*)", "(*)*)"},
		[]string{"let", "rec", "in", "fun", "if", "then", "else", "match", "with", "true", "false", "mod"},
		[]string{"a", "z", "x'", "_", "__", "_1", "_'", "aB0_'", "lets", "le", "e", "e1", "e5", "n", "A", "Z", "E", "E7", "'"},
		[]string{"0", "7", "10", "0012", "123456789012345", "1234567890123456", "1.", "1.5", "0.0", "12345678901234.5", "123456789012345.6", ".", ".5", "e+5", "E-3", "1.e", "1.5e-", "1.5E+", "1.5e3", "1.0e23", "1.0e24", "1.0e-21", "1.0e-22", "2.e022", "2.e99999999999999999999"},
		[]string{`"`, `""`, `"a"`, `"a\n"`, `"\t\\\""`, `"\q"`, `"\q\"`, `"\`, `\`, `\"`, `\n`, `\q`, `"a`, "\"\u20ac\"", "\"\r\"", "\"\\\u00e9\"", "\"(*\"", "\"\n\"", "\"\\\n\""},
		[]string{"->", "::", "<>", "<=", ">=", "+.", "-.", "*.", "/.", "&&", "||", "(", ")", "[", "]", ",", ";", "|", "=", "<", ">", "+", "-", "*", "/", "^", "@", "&", ":"},
		[]string{"#", "$", "%", "!", "?", "`", "{", "}", "~", "\x00", "\x01", "\x0b", "\x0c", "\x1f", "\x7f", "\u0080", "\u00a0", "\u00df", "\u03bb", "\u2028", "\u20ac", "\ufeff", "\ufffd", "\uffff", "\U00010000", "\U0001d11e", "\U0010ffff"},
	)
}

// someText is one of up to so many pieces.
func someText(r *rand.Rand, l []string, most int) string {
	var s strings.Builder
	for range r.IntN(most + 1) {
		s.WriteString(l[r.IntN(len(l))])
	}
	return s.String()
}

// everyToken: each token that a piece or two of them begin with, once.
func everyToken() []api.Token {
	var l []api.Token
	known := map[api.Token]bool{}
	for _, a := range pieces() {
		for _, b := range []string{"", "\"", "*)", "5", "e7", "\n", "."} {
			if t := first(a + b); !known[t] {
				known[t] = true
				l = append(l, t)
			}
		}
	}
	return l
}
