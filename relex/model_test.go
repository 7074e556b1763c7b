package relex_test

import (
	"math/rand/v2"
	"slices"
	"sort"
	"strconv"
	"strings"
	"testing"
	"unicode/utf8"

	"rostrum/api"
	"rostrum/lex"
	"rostrum/relex"
)

// The chapter's terms, word by word: bytes in the place of others, what is kept searched by halves, and all tokens those of Tokens, from the first byte on.

func edit(from, to int, text string) api.Edit {
	return api.Edit{Span: api.Span{From: from, To: to}, Text: text}
}

// allowed: the error of Tokens, by the limits and the library.
func allowed(s string) api.Errno {
	switch {
	case len(s) > api.MaxText:
		return api.ErrTooLarge
	case !utf8.ValidString(s):
		return api.ErrForm
	}
	return api.OK
}

// modelDo: the resulting text, or the first error of the table.
func modelDo(s string, e api.Edit) (string, api.Errno) {
	if err := allowed(s); err != api.OK {
		return "", err
	}
	if e.Span.From < 0 || e.Span.To > len(s) || e.Span.From > e.Span.To {
		return "", api.ErrArg
	}
	result := slices.Replace([]byte(s), e.Span.From, e.Span.To, []byte(e.Text)...)
	if err := allowed(string(result)); err != api.OK {
		return "", err
	}
	return string(result), api.OK
}

// modelKept: the greatest numbers for which both ends are the same, by binary search.
func modelKept(a, b []api.Token) relex.Kept {
	most := min(len(a), len(b))
	ahead := sort.Search(most, func(n int) bool { return !slices.Equal(a[:n+1], b[:n+1]) })
	behind := sort.Search(most-ahead, func(n int) bool { return !slices.Equal(a[len(a)-n-1:], b[len(b)-n-1:]) })
	return relex.Kept{Ahead: ahead, Behind: behind}
}

// modelRow: one edit after another.
func modelRow(s string, l []api.Edit) (string, int, api.Errno) {
	if err := allowed(s); err != api.OK {
		return "", 0, err
	}
	for i, e := range l {
		var err api.Errno
		if s, err = modelDo(s, e); err != api.OK {
			return "", i, err
		}
	}
	return s, 0, api.OK
}

// tokens: of a text that is allowed.
func tokens(t *testing.T, s string) []api.Token {
	t.Helper()
	l, err := lex.Tokens(s)
	if err != api.OK {
		t.Fatalf("Tokens(%s): %v", short(s), err)
	}
	return l
}

// refused: no call has a result for a text and an edit.
func refused(t *testing.T, s string, e api.Edit, want api.Errno) {
	t.Helper()
	if got, err := relex.Do(s, e); got != "" || err != want {
		t.Fatalf("Do(%s, %s): %s, %v, not %v", short(s), told(e), short(got), err, want)
	}
	if l, k, err := relex.Relex(s, e); len(l) > 0 || k != (relex.Kept{}) || err != want {
		t.Fatalf("Relex(%s, %s): %s, %v, %v, not %v", short(s), told(e), list(l), k, err, want)
	}
	if l, at, err := relex.Row(s, []api.Edit{e}); len(l) > 0 || at != 0 || err != want {
		t.Fatalf("Row(%s, %s): %s, %d, %v, not %v", short(s), told(e), list(l), at, err, want)
	}
}

// holds holds every call for a text and an edit against the model, and all properties.
func holds(t *testing.T, s string, e api.Edit) {
	t.Helper()
	want, wrong := modelDo(s, e)
	if wrong != api.OK {
		refused(t, s, e, wrong)
		return
	}
	if got, err := relex.Do(s, e); got != want || err != api.OK {
		t.Fatalf("Do(%s, %s): %s, %v, not %s", short(s), told(e), short(got), err, short(want))
	}
	before, after := tokens(t, s), tokens(t, want)
	l, k, err := relex.Relex(s, e)
	if err != api.OK || !slices.Equal(l, after) || k != modelKept(before, after) {
		t.Fatalf("Relex(%s, %s): %s, %v, %v, not %s, %v", short(s), told(e), list(l), k, err, list(after), modelKept(before, after))
	}
	stays(t, s, e, before, l, k)
	goesBack(t, s, e, want, before)
}

// stays: P10.4: what ends three or more bytes before the span is kept, and what is kept is in both.
func stays(t *testing.T, s string, e api.Edit, before, after []api.Token, k relex.Kept) {
	t.Helper()
	for i, end := 0, 0; i < len(before); i++ {
		end += len(before[i].Text)
		if end+3 <= e.Span.From && i >= k.Ahead {
			t.Fatalf("Relex(%s, %s): %v ends at %d, and is not kept: %v", short(s), told(e), before[i], end, k)
		}
	}
	for i := range k.Ahead {
		if before[i] != after[i] {
			t.Fatalf("Relex(%s, %s): %v ahead: %v is not %v", short(s), told(e), k, before[i], after[i])
		}
	}
	for i := range k.Behind {
		if x, y := before[len(before)-1-i], after[len(after)-1-i]; x != y {
			t.Fatalf("Relex(%s, %s): %v behind: %v is not %v", short(s), told(e), k, x, y)
		}
	}
}

// goesBack: P10.5: the edit that restores what was there gives the same tokens.
func goesBack(t *testing.T, s string, e api.Edit, result string, before []api.Token) {
	t.Helper()
	back := edit(e.Span.From, e.Span.From+len(e.Text), s[e.Span.From:e.Span.To])
	l, _, err := relex.Relex(result, back)
	if err != api.OK || !slices.Equal(l, before) {
		t.Fatalf("Relex(%s, %s), back: %s, %v", short(result), told(back), list(l), err)
	}
	l, at, err := relex.Row(s, []api.Edit{e, back})
	if err != api.OK || at != 0 || !slices.Equal(l, before) {
		t.Fatalf("Row(%s, %s and back): %s, %d, %v", short(s), told(e), list(l), at, err)
	}
}

// rowHolds holds Row against the model.
func rowHolds(t *testing.T, s string, l []api.Edit) {
	t.Helper()
	want, index, wrong := modelRow(s, l)
	var after []api.Token
	if wrong == api.OK {
		after = tokens(t, want)
	}
	got, at, err := relex.Row(s, l)
	if err != wrong || at != index || !slices.Equal(got, after) {
		t.Fatalf("Row(%s, %v): %s, %d, %v, not %s, %d, %v", short(s), l, list(got), at, err, list(after), index, wrong)
	}
}

// eachSpan visits every span of a text of so many bytes.
func eachSpan(size int, visit func(from, to int)) {
	for from := range size + 1 {
		for to := from; to <= size; to++ {
			visit(from, to)
		}
	}
}

// eachText visits every text of up to so many of these pieces.
func eachText(pieces []string, most int, visit func(s string)) {
	visit("")
	if most == 0 {
		return
	}
	for _, piece := range pieces {
		eachText(pieces, most-1, func(s string) {
			visit(piece + s)
		})
	}
}

// source makes the same numbers in every run.
func source() *rand.Rand {
	return rand.New(rand.NewPCG(10, 2026))
}

// pieces are texts at which tokens begin, end or change.
func pieces() []string {
	return slices.Concat(
		[]string{" ", "\t", "\n", "\r\n", "  \n ", "(*", "*)", "(**)", "(* a *)", "(*(*", "*)*)", "(", "*", ")"},
		[]string{"let", "rec", "in", "mod", "a", "x'", "_", "aB0_'", "lets", "e", "e1", "E", "A", "'"},
		[]string{"0", "7", "10", "123456789012345", "1234567890123456", "1.", "1.5", "12345678901234.5", ".", ".5", "e+5", "E-3", "e+", "e-", "1.5e", "1.5E+", "1.5e-3", "1.0e23", "1.0e24"},
		[]string{`"`, `""`, `"a"`, `"\t\\\""`, `"\q"`, `"\`, `\`, `\"`, `\q`, `"a`, "\"\u20ac\"", "\"\n"},
		[]string{"->", "::", "<>", "<=", "+.", "-.", "&&", "||", "[", "]", ",", ";", "|", "=", "<", ">", "+", "-", "/", "&", ":"},
		[]string{"#", "\x00", "\u00e9", "\u03bb", "\u20ac", "\ufffd", "\U0001d11e", "\U0010ffff"},
	)
}

// strays are bytes that are no whole characters: beginnings of one, and what is within it.
func strays() []string {
	return []string{"\xc3", "\xa9", "\xa8", "\xe2", "\xe2\x82", "\x82\xac", "\xac", "\xf0", "\xf0\x9d\x84", "\x9d\x84\x9e", "\x9e", "\xff", "\xc0\x80", "\xed\xa0\x80"}
}

// someText is one of up to so many pieces.
func someText(r *rand.Rand, l []string, most int) string {
	var s strings.Builder
	for range r.IntN(most + 1) {
		s.WriteString(l[r.IntN(len(l))])
	}
	return s.String()
}

// someEdit is one of a text of so many bytes, mostly a small one.
func someEdit(r *rand.Rand, l []string, size int) api.Edit {
	from := r.IntN(size + 1)
	to := from + r.IntN(size-from+1)
	if r.IntN(4) > 0 {
		to = min(from+r.IntN(4), size)
	}
	return edit(from, to, someText(r, l, 1+r.IntN(3)))
}

// letters of Kinds, for short lists of them.
const letters = "?brwniftsx"

// short is a text for a message.
func short(s string) string {
	if len(s) > 80 {
		s = s[:40] + ".." + s[len(s)-40:] + ": " + strconv.Itoa(len(s)) + " bytes"
	}
	return strconv.Quote(s)
}

// told is an edit for a message.
func told(e api.Edit) string {
	return strconv.Itoa(e.Span.From) + " to " + strconv.Itoa(e.Span.To) + " by " + short(e.Text)
}

// list: tokens for a message.
func list(l []api.Token) string {
	s := ""
	for _, x := range l[:min(len(l), 20)] {
		s += " " + letters[x.Kind:x.Kind+1] + short(x.Text)
	}
	return "[" + strconv.Itoa(len(l)) + s + "]"
}
