package relex_test

import (
	"slices"
	"strings"
	"testing"

	"rostrum/api"
	"rostrum/relex"
)

// example is a text, an edit of it, the tokens after it with the letters of their Kinds, and what is kept.
type example struct {
	text          string
	from, to      int
	put           string
	kinds         string
	tokens        string // with a space between each two, and a point in the middle (·) for a space in one
	ahead, behind int
}

// want: the example's tokens.
func (x example) want(t *testing.T) []api.Token {
	t.Helper()
	texts := strings.Fields(x.tokens)
	if len(texts) != len(x.kinds) {
		t.Fatalf("%d kinds of %d texts: %s", len(x.kinds), len(texts), x.tokens)
	}
	var l []api.Token
	for i, text := range texts {
		kind := uint8(strings.IndexByte(letters, x.kinds[i]))
		l = append(l, api.Token{Kind: kind, Text: strings.NewReplacer("·", " ", "¶", "\n").Replace(text)})
	}
	return l
}

// show holds all calls against examples.
func show(t *testing.T, l []example) {
	t.Helper()
	for _, x := range l {
		e, want, kept := edit(x.from, x.to, x.put), x.want(t), relex.Kept{Ahead: x.ahead, Behind: x.behind}
		got, k, err := relex.Relex(x.text, e)
		if err != api.OK || !slices.Equal(got, want) || k != kept {
			t.Errorf("Relex(%q, %s): %s, %v, %v, not %s, %v", x.text, told(e), list(got), k, err, list(want), kept)
		}
		if got, at, err := relex.Row(x.text, []api.Edit{e}); err != api.OK || at != 0 || !slices.Equal(got, want) {
			t.Errorf("Row(%q, %s): %s, %d, %v, not %s", x.text, told(e), list(got), at, err, list(want))
		}
		text := ""
		for _, token := range want {
			text += token.Text
		}
		if got, err := relex.Do(x.text, e); err != api.OK || got != text {
			t.Errorf("Do(%q, %s): %q, %v, not %q", x.text, told(e), got, err, text)
		}
		holds(t, x.text, e)
	}
}

// The chapter's examples.
func TestExamples(t *testing.T) {
	show(t, []example{
		{"let x = 1", 8, 9, "23", "wbnbsbi", "let · x · = · 23", 6, 0},
		{"let x = 1", 4, 5, "y z", "wbnbnbsbi", "let · y · z · = · 1", 2, 4},
		{"let x = 1", 0, 0, "(*", "x", "(*let·x·=·1", 0, 0},
	})
	refused(t, "let x = 1", edit(9, 3, ""), api.ErrArg)
}

// P10.1: edits that put in, take out, put one text in another's place, and change nothing, at each kind of place.
func TestPlaces(t *testing.T) {
	show(t, []example{
		// At the beginning.
		{"let x", 0, 0, "a ", "nbwbn", "a · let · x", 0, 3},
		{"let x", 0, 0, "a", "nbn", "alet · x", 0, 2},
		{"let x", 0, 4, "", "n", "x", 0, 1},
		{"let x", 0, 3, "in", "wbn", "in · x", 0, 2},
		{"let x", 0, 1, "", "nbn", "et · x", 0, 2},
		// At the end.
		{"let x", 5, 5, "y", "wbn", "let · xy", 2, 0},
		{"let x", 5, 5, "=1", "wbnsi", "let · x = 1", 3, 0},
		{"let x", 4, 5, "", "wb", "let ·", 2, 0},
		{"let x", 3, 5, "", "w", "let", 1, 0},
		{"let x", 4, 5, "12", "wbi", "let · 12", 2, 0},
		// Within a token.
		{"let x", 1, 2, "", "nbn", "lt · x", 0, 2},
		{"abcdef+g", 3, 3, "X", "nsn", "abcXdef + g", 0, 2},
		{"abcdef+g", 2, 4, "0", "nsn", "ab0ef + g", 0, 2},
		{"1+(* a *)-2", 5, 6, "bb", "isrsi", "1 + (*·bb·*) - 2", 2, 2},
		{`f "abc" g`, 4, 5, `\n`, "nbtbn", `f · "a\nc" · g`, 2, 2},
		// Between two tokens.
		{"a+b", 1, 1, " ", "nbsn", "a · + b", 1, 2},
		{"a+b", 1, 1, "1", "nsn", "a1 + b", 0, 2},
		{"a+b", 1, 1, "-", "nssn", "a - + b", 1, 2},
		{"a+b", 2, 2, "1.5*", "nsfsn", "a + 1.5 * b", 2, 1},
		// Over many tokens.
		{"let f x = x + 1 in f 2", 4, 15, "g", "wbnbwbnbi", "let · g · in · f · 2", 2, 6},
		{"let f x = x + 1 in f 2", 0, 22, "", "", "", 0, 0},
		{"let f x = x + 1 in f 2", 0, 22, "(f)", "sns", "( f )", 0, 0},
		{"let f x = x + 1 in f 2", 0, 22, "let f 2", "wbnbi", "let · f · 2", 4, 1},
		// What changes nothing.
		{"let x", 2, 2, "", "wbn", "let · x", 3, 0},
		{"let x", 0, 0, "", "wbn", "let · x", 3, 0},
		{"let x", 5, 5, "", "wbn", "let · x", 3, 0},
		{"let x", 2, 4, "t ", "wbn", "let · x", 3, 0},
		{"let x", 0, 5, "let x", "wbn", "let · x", 3, 0},
		// No text, before and after.
		{"", 0, 0, "", "", "", 0, 0},
		{"", 0, 0, "a b", "nbn", "a · b", 0, 0},
		{"", 0, 0, "(*", "x", "(*", 0, 0},
		{"a b", 0, 3, "", "", "", 0, 0},
	})
}

// P10.1: edits that join tokens, and that part them.
func TestJoinsAndParts(t *testing.T) {
	show(t, []example{
		{"a b", 1, 2, "", "n", "ab", 0, 0},
		{"le t", 2, 3, "", "w", "let", 0, 0},
		{"1 .5", 1, 2, "", "f", "1.5", 0, 0},
		{"1. e5", 2, 3, "", "f", "1.e5", 0, 0},
		{"- >x", 1, 2, "", "sn", "-> x", 0, 1},
		{"( * a *)", 1, 2, "", "r", "(*·a·*)", 0, 0},
		{" 1 ", 1, 2, "", "b", "··", 0, 0},
		{`"a""b"`, 2, 4, "", "t", `"ab"`, 0, 0},
		{"ab", 1, 1, " ", "nbn", "a · b", 0, 0},
		{"let", 1, 1, "-", "nsn", "l - et", 0, 0},
		{"1.5", 1, 1, "a", "inxi", "1 a . 5", 0, 0},
		{"->", 1, 1, " ", "sbs", "- · >", 0, 0},
		{"  ", 1, 1, "a", "bnb", "· a ·", 0, 0},
		{`"ab"`, 2, 2, `""`, "tt", `"a" "b"`, 0, 0},
	})
}

// P10.1: edits that open a Remark or a Text, and that close it.
func TestOpensAndCloses(t *testing.T) {
	show(t, []example{
		{"a+b *) c", 2, 2, "(*", "nsrbn", "a + (*b·*) · c", 2, 2},
		{"a+b c", 2, 2, "(*", "nsx", "a + (*b·c", 2, 0},
		{"a+(*b c", 5, 5, "*)", "nsrbn", "a + (*b*) · c", 2, 0},
		{"a+(*b c", 2, 4, "", "nsnbn", "a + b · c", 2, 0},
		{"(* a *) b", 3, 4, "(*", "x", "(*·(*·*)·b", 0, 0},
		{"(* (* *) b", 10, 10, "*)", "r", "(*·(*·*)·b*)", 0, 0},
		{"(* *) b *)", 3, 5, "", "r", "(*··b·*)", 0, 0},
		{"(* a *) b", 6, 7, "", "x", "(*·a·*·b", 0, 0},
		{"(a)", 1, 1, "*", "x", "(*a)", 0, 0},
		{"a+b\" c", 2, 2, "\"", "nstbn", "a + \"b\" · c", 2, 0},
		{"a+b c\nd", 2, 2, "\"", "nsxbn", "a + \"b·c ¶ d", 2, 2},
		{"a+\"b\nd", 4, 4, "\"", "nstbn", "a + \"b\" ¶ d", 2, 2},
		{"\"a\nb\"", 2, 3, "", "t", "\"ab\"", 0, 0},
		{"\"a b\" \"", 2, 2, "\n", "xbnt", "\"a ¶· b \"·\"", 0, 0},
		{`f "a" "b" g`, 2, 2, `"`, "nbtntnx", `f · "" a "·" b "·g`, 2, 0},
		{`f ""a" "b" g`, 2, 3, "", "nbtbtbn", `f · "a" · "b" · g`, 2, 0},
	})
}

// P10.1: characters of two, three and four bytes: one put in another's place, as a whole or by some of their bytes; a Bad token is a character.
func TestCharacters(t *testing.T) {
	show(t, []example{
		{"a\u00e9b", 1, 3, "\u20ac", "nxn", "a \u20ac b", 1, 1},
		{"a\u00e9b", 3, 3, "\U0001d11e", "nxxn", "a \u00e9 \U0001d11e b", 2, 1},
		{"a\u00e9b", 2, 3, "\xa8", "nxn", "a \u00e8 b", 1, 1},
		{"a\u00e9b", 1, 2, "\xc4", "nxn", "a \u0129 b", 1, 1},
		{"a\u00e9b", 2, 2, "\xa8\xc3", "nxxn", "a \u00e8 \u00e9 b", 1, 2},
		{"a\u00e9b", 2, 3, "\xa9", "nxn", "a \u00e9 b", 3, 0},
		{"a\u20acb", 2, 3, "\x83", "nxn", "a \u20ec b", 1, 1},
		{"a\u20acb", 1, 3, "\xc3", "nxn", "a \u00ec b", 1, 1},
		{"a\u20acb", 3, 4, "\xad+\u00e9", "nxsxn", "a \u20ad + \u00e9 b", 1, 1},
		{"a\U0001d11eb", 4, 5, "\x9f", "nxn", "a \U0001d11f b", 1, 1},
		{"a\U0001d11eb", 1, 2, "\xf1", "nxn", "a \U0005d11e b", 1, 1},
		{"\U0001d11e\U0001d11e", 2, 6, "", "x", "\U0001d11e", 1, 0},
		{"\u00e9\u00e9", 1, 3, "", "x", "\u00e9", 1, 0},
		{"(*\u00e9*)", 3, 4, "\xa8", "r", "(*\u00e8*)", 0, 0},
		{"\"\u20ac\"+1", 2, 4, "\x83\xad", "tsi", "\"\u20ed\" + 1", 0, 2},
	})
}
