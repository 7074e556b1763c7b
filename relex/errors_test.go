package relex_test

import (
	"math"
	"strings"
	"testing"

	"rostrum/api"
	"rostrum/relex"
)

// wrongSpans are spans that a text of so many bytes does not have.
func wrongSpans(size int) []api.Span {
	l := []api.Span{
		{From: math.MinInt, To: 0}, {From: math.MinInt, To: math.MinInt}, {From: math.MinInt, To: math.MaxInt}, {From: math.MinInt, To: size},
		{From: 0, To: math.MaxInt}, {From: math.MaxInt, To: math.MaxInt}, {From: math.MaxInt, To: 0}, {From: math.MaxInt, To: math.MinInt}, {From: size, To: math.MinInt},
		{From: -1, To: 1<<32 - 1}, {From: 1 << 32, To: 1 << 32}, {From: 0, To: 1 << 32}, {From: -1 << 32, To: 0},
		{From: api.MaxText + 1, To: api.MaxText + 1}, {From: 0, To: api.MaxText + 1},
	}
	for from := -3; from <= size+3; from++ {
		for to := -3; to <= size+3; to++ {
			if from < 0 || to > size || from > to {
				l = append(l, api.Span{From: from, To: to})
			}
		}
	}
	return l
}

// texts of edits that are allowed, that are not, and of which the result would not be.
func anyTexts() []string {
	return []string{"", "a", "(*", "\xff", strings.Repeat("a", api.MaxText), strings.Repeat("a", api.MaxText+1), strings.Repeat("\xff", api.MaxText+1)}
}

// Errors: ErrArg: a span that is none of the text, whatever the text of the edit is.
func TestWrongSpans(t *testing.T) {
	for _, s := range []string{"", "a", "let x = 1", "\u00e9\U0001d11e", "(*", "\"a\n\""} {
		for _, x := range wrongSpans(len(s)) {
			for _, put := range anyTexts() {
				refused(t, s, api.Edit{Span: x, Text: put}, api.ErrArg)
			}
		}
	}
	for _, s := range []string{strings.Repeat("a", api.MaxText), strings.Repeat("a ", api.MaxText/2)} {
		for _, x := range []api.Span{{From: -1, To: 0}, {From: 0, To: len(s) + 1}, {From: len(s) + 1, To: len(s) + 1}, {From: 2, To: 1}, {From: len(s), To: 0}} {
			for _, put := range anyTexts() {
				refused(t, s, api.Edit{Span: x, Text: put}, api.ErrArg)
			}
		}
	}
}

// Errors: what Tokens says of the text comes first, whatever the edit is: one that cannot be applied, or that would make a text that is allowed of it.
func TestErrorOfTheText(t *testing.T) {
	long := strings.Repeat("a", api.MaxText+1)
	for _, x := range []struct {
		text string
		want api.Errno
	}{
		{long, api.ErrTooLarge}, {long[1:] + "\xff", api.ErrTooLarge}, {"\xff" + long, api.ErrTooLarge}, {strings.Repeat("\u00e9", api.MaxText/2) + " ", api.ErrTooLarge},
		{"\xff", api.ErrForm}, {"a\xc3", api.ErrForm}, {"let x = \xe2\x82", api.ErrForm}, {"\xed\xa0\x80", api.ErrForm}, {"\xff" + long[2:], api.ErrForm}, {long[2:] + "\x80", api.ErrForm}, {"(* \xa9 *)", api.ErrForm},
	} {
		size := len(x.text)
		for _, span := range []api.Span{{From: 0, To: 0}, {From: 0, To: size}, {From: size, To: size}, {From: size - 1, To: size}, {From: 0, To: 1}, {From: 9, To: 3}, {From: -1, To: 0}, {From: size, To: size + 1}, {From: size + 1, To: size + 1}} {
			for _, put := range anyTexts() {
				refused(t, x.text, api.Edit{Span: span, Text: put}, x.want)
			}
		}
	}
}

// Errors: edits that make MaxText bytes are allowed, those that make one more are not.
func TestLimit(t *testing.T) {
	for _, piece := range []string{"a", "let x = 1.5 + f (* a *) ", "\u20ac", "1.5e+", "(*", "\"a\n"} {
		whole := strings.Repeat(piece, api.MaxText/len(piece))
		whole += strings.Repeat(";", api.MaxText-len(whole))
		size := len(whole)
		for _, e := range []api.Edit{edit(0, 0, ""), edit(0, size, whole), edit(0, size, ""), edit(size-1, size, ";"), edit(size, size, ""), edit(0, len(piece), piece), edit(0, len(piece), "")} {
			holds(t, whole, e)
		}
		for _, e := range []api.Edit{edit(0, 0, ";"), edit(size, size, ";"), edit(size/6*6, size/6*6, "a"), edit(0, len(piece), piece+" "), edit(size-1, size, "ab"), edit(0, size, whole+"a"), edit(0, 0, whole), edit(0, len(piece), whole), edit(size, size, whole), edit(size, size, "\xff"), edit(0, 0, "\xc3"), edit(0, size, "\xff"+whole)} {
			refused(t, whole, e, api.ErrTooLarge)
		}
		less := whole[:(size/len(piece)-7)*len(piece)]
		for _, e := range []api.Edit{edit(0, 0, whole[len(less):]), edit(len(less), len(less), strings.Repeat("b", size-len(less))), edit(0, len(less), whole)} {
			holds(t, less, e)
			if got, err := relex.Do(less, e); len(got) != api.MaxText || err != api.OK {
				t.Fatalf("Do(%s, %s): %d bytes, %v", short(less), told(e), len(got), err)
			}
			e.Text += "a"
			refused(t, less, e, api.ErrTooLarge)
			e.Text = e.Text[:len(e.Text)-2] + "\xff"
			refused(t, less, e, api.ErrForm)
		}
		for _, put := range []string{whole, whole + "a", whole[1:] + "\xff"} {
			holds(t, "", edit(0, 0, put))
		}
	}
}

// Errors: ErrForm: edits whose text is no valid text, and no part of a character that they complete.
func TestInvalidPuts(t *testing.T) {
	for _, s := range []string{"", "a", "let x = 1", "a\u00e9b", "\u20ac", "(* a *)", "\"a\" b"} {
		for _, put := range strays() {
			for at := range s + " " {
				refused(t, s, edit(at, at, put), api.ErrForm)
				refused(t, s, edit(at, at, "a"+put+"b"), api.ErrForm)
				refused(t, s, edit(at, len(s), put), api.ErrForm)
				refused(t, s, edit(0, at, put), api.ErrForm)
			}
		}
	}
}

// Errors: ErrForm: edits that cut a character, at each of its bytes, without what would complete it.
func TestCutCharacters(t *testing.T) {
	for _, char := range []string{"\u0080", "\u00e9", "\u07ff", "\u0800", "\u20ac", "\uffff", "\U00010000", "\U0001d11e", "\U0010ffff"} {
		for _, around := range [][2]string{{"", ""}, {"a", "b"}, {"let x = ", " in x"}, {"(* ", " *) a"}, {"\"", "\""}, {char, char}} {
			s, from := around[0]+char+around[1], len(around[0])
			for at := from + 1; at < from+len(char); at++ {
				for _, put := range []string{"a", " ", "(*", "\u00e9", "\xff"} {
					refused(t, s, edit(at, at, put), api.ErrForm)
				}
				refused(t, s, edit(at, from+len(char), ""), api.ErrForm)
				refused(t, s, edit(from, at, ""), api.ErrForm)
				refused(t, s, edit(0, at, ""), api.ErrForm)
				refused(t, s, edit(at, len(s), ""), api.ErrForm)
				holds(t, s, edit(at, at, ""))
				holds(t, s, edit(at, at, char[at-from:]+char[:at-from]))
				holds(t, s, edit(at, from+len(char), char[at-from:]))
			}
			holds(t, s, edit(from, from+len(char), ""))
		}
	}
}

// Errors: every edit of a few characters by their bytes: some results are valid, others are not.
func TestBytesOfCharacters(t *testing.T) {
	s := "a\u00e9\u20ac\U0001d11e "
	valid, wrong := 0, 0
	eachText(append(strays(), "", "a", "\u00e9"), 2, func(put string) {
		eachSpan(len(s), func(from, to int) {
			holds(t, s, edit(from, to, put))
			if _, err := modelDo(s, edit(from, to, put)); err == api.OK {
				valid++
			} else {
				wrong++
			}
		})
	})
	if valid < 1000 || wrong < 1000 {
		t.Errorf("%d results are valid, %d are not", valid, wrong)
	}
}
