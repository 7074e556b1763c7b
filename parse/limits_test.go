package parse_test

import (
	"strings"
	"testing"

	"rostrum/api"
	"rostrum/green"
	"rostrum/lex"
	"rostrum/parse"
)

// Errors, and texts at the limits.

// refused: Parse returns this error, and nothing else.
func refused(t *testing.T, text string, want api.Errno) {
	t.Helper()
	n, e := parse.Parse(text)
	if e != want || !green.Same(n, api.Node{}) {
		t.Errorf("Parse(%q): %s, %v, not %v", brief(text), brief(told(n)), e, want)
	}
	if _, e := lex.Tokens(text); e != want {
		t.Errorf("Tokens(%q): %v, not %v", brief(text), e, want)
	}
}

// Errors: those of lex.Tokens: ErrTooLarge before ErrForm.
func TestErrors(t *testing.T) {
	long := strings.Repeat("let x = 1\n", api.MaxText/10+1)
	refused(t, long[:api.MaxText+1], api.ErrTooLarge)
	refused(t, long, api.ErrTooLarge)
	refused(t, strings.Repeat(" ", api.MaxText+1), api.ErrTooLarge)
	refused(t, strings.Repeat("x", 2*api.MaxText), api.ErrTooLarge)
	refused(t, "\xff"+long, api.ErrTooLarge)
	refused(t, long[:api.MaxText]+"\xff", api.ErrTooLarge)
	refused(t, strings.Repeat("\xff", api.MaxText+1), api.ErrTooLarge)
	refused(t, strings.Repeat("\u00e9", api.MaxText/2)+" ", api.ErrTooLarge)
	refused(t, long[:api.MaxText-1]+"\xff", api.ErrForm)
	refused(t, strings.Repeat("\xff", api.MaxText), api.ErrForm)
	for _, x := range []string{"\xff", "\x80", "\xc3", "a\xc3", "let x = \xe2\x82", "let x = \"\xed\xa0\x80\"", "(* \xc3 *)", "\xc0\x80", "let x = 1 \xf4\x90\x80\x80", "\u00e9\xa9", " \xf0\x9d\x84"} {
		refused(t, x, api.ErrForm)
		refused(t, x+" ", api.ErrForm)
		refused(t, "let x = 1 "+x, api.ErrForm)
	}
	holds(t, "\u00e9")
	holds(t, "let x = \"\U0001d11e\u20ac\" (* \u00e9 *)")
	holds(t, "\x00 \x7f let x\x00 = 1")
}

// filled is a text of so many bytes: a beginning, a piece again and again, as far as it fits, then blanks.
func filled(start, piece string, size int) string {
	s := start + strings.Repeat(piece, (size-len(start))/len(piece))
	return s + strings.Repeat(" ", size-len(s))
}

// Texts of MaxText bytes: of the same again and again, which makes trees as deep and as wide as they come.
func TestLongest(t *testing.T) {
	t.Parallel()
	for _, x := range []struct {
		start, piece string
		good         bool
	}{
		{"", " ", true}, {"", "(**)", true}, {"", "(* a *) ", true}, {"", "let x = 1\n", true}, {"", "let rec f a = (f, [a; - 1.5]) (* a *)\n", true},
		{"let x = 1", " ^1", true}, {"let x = 1", "^1", true}, {"let x = 1", "::1", true}, {"let x = 1", "-1", true}, {"let x = 1", "*1", true}, {"let x = 1", "||1", true}, {"let x = 1", "&&1", true}, {"let x = 1", "=1", true},
		{"let x = 1", "||a&&b=c@d::e+f*g h", true}, {"let x = 1", "*1+1::1^1=1&&1||1", true}, {"let x = 1", " a", true}, {"let x = a", "()", true}, {"let x = a", "[1;2]", true}, {"let x = fun a -> a", "(a)b", true},
		{"let f a", " a", false}, {"let x = fun a", " a", false}, {"let x = (1", ",1", false}, {"let x = [1", ";1", false}, {"let x = match a with b -> c", "|b->c", true}, {"let x = match a with b -> c", "|b:: c->c", true},
		{"", "(", false}, {"let x =", "(", false}, {"let x =", "[", false}, {"let x =", "-", false}, {"let x =", "-.", false}, {"let x =", " fun a->", false}, {"let x =", " let a=", false}, {"let x =", " let a=1 in", false}, {"let x =", " if", false},
		{"let x =", " if a then", false}, {"let x =", " match", false}, {"let x =", " match a with b->", false}, {"let", "(", false}, {"let f", "(", false}, {"let f", "[a::", false}, {"let f", "(a,", false}, {"let x =", "()", true}, {"let f", "()", false},
		{"", "let ", false}, {"", "let rec ", false}, {"", "let x ", false}, {"", "let x = 1 in ", false}, {"", "$", false}, {"let x =", "$", false}, {"let x = 1", "+", false}, {"let x = 1", "::", false}, {"let x = 1", "^", false}, {"let x = 1", ",", false}, {"let x =", "(,", false},
		{"", ")", false}, {"", "x", false}, {"let x = ", "x", true}, {"let x = ", "1", true}, {"", "(*", false}, {"let x = \"", "a", false}, {"", ")let x=1 ", false}, {"", "in let ", false}, {"let x = match a with", "|", false}, {"let x = match a with", "|a", false},
		{"let x = ", "(fun a -> ", false}, {"let x = ", "(- ", false}, {"let x = ", "(1, [a; ", false}, {"let x = match a with ", "a :: ", false}, {"let x = match a with b -> c", "|(a,[b;c::d])->1+2", true},
	} {
		text := filled(x.start, x.piece, api.MaxText)
		good(t, holds(t, text), x.good)
		refused(t, text+" ", api.ErrTooLarge)
	}
	holds(t, filled("let x = 1", "^1", api.MaxText-1))
	holds(t, filled("", "$", api.MaxText-1))
}
