package relex_test

import (
	"slices"
	"strings"
	"testing"

	"rostrum/api"
	"rostrum/relex"
)

// rowRefused: Row has no tokens, but the index of an edit.
func rowRefused(t *testing.T, s string, l []api.Edit, index int, want api.Errno) {
	t.Helper()
	if got, at, err := relex.Row(s, l); len(got) > 0 || at != index || err != want {
		t.Errorf("Row(%s, %d edits): %s, %d, %v, not %d, %v", short(s), len(l), list(got), at, err, index, want)
	}
	rowHolds(t, s, l)
}

// rowIs: the tokens after edits are those of a text.
func rowIs(t *testing.T, s string, l []api.Edit, want string) {
	t.Helper()
	if got, at, err := relex.Row(s, l); err != api.OK || at != 0 || !slices.Equal(got, tokens(t, want)) {
		t.Errorf("Row(%s, %d edits): %s, %d, %v, not those of %s", short(s), len(l), list(got), at, err, short(want))
	}
	rowHolds(t, s, l)
}

// P10.2: no edit at all: the tokens of the text.
func TestRowOfNone(t *testing.T) {
	for _, s := range []string{"", "a", "let x = 1", "(* a", "\"a\n", "\u00e9", strings.Repeat("a ", api.MaxText/2)} {
		rowIs(t, s, nil, s)
		rowIs(t, s, []api.Edit{}, s)
		rowIs(t, s, make([]api.Edit, 9)[:0], s)
	}
}

// P10.2: edits one after another, each one of the result of the one before it.
func TestRowOfMany(t *testing.T) {
	rowIs(t, "let x = 1", []api.Edit{edit(8, 9, "23")}, "let x = 23")
	rowIs(t, "let x = 1", []api.Edit{edit(8, 9, "23"), edit(10, 10, " in x")}, "let x = 23 in x")
	rowIs(t, "let x = 1", []api.Edit{edit(0, 0, "(*"), edit(11, 11, "*)"), edit(0, 2, ""), edit(9, 11, "")}, "let x = 1")
	rowIs(t, "ab", []api.Edit{edit(0, 1, ""), edit(0, 1, ""), edit(0, 0, "c d"), edit(1, 2, "")}, "cd")
	rowIs(t, "a b", []api.Edit{edit(1, 2, ""), edit(1, 1, "+"), edit(1, 2, " "), edit(1, 2, "")}, "ab")
	// Each one by another order gives another text.
	rowIs(t, "abc", []api.Edit{edit(0, 1, ""), edit(1, 2, "-")}, "b-")
	rowIs(t, "abc", []api.Edit{edit(1, 2, "-"), edit(0, 1, "")}, "-c")
	rowIs(t, "1.5e+", []api.Edit{edit(5, 5, "3"), edit(6, 6, "x"), edit(5, 6, "")}, "1.5e+x")
	// The first one cuts no character as the text is, nor the second one as its result is.
	rowIs(t, "\u00e9", []api.Edit{edit(1, 2, "\xa8"), edit(0, 1, "\xc4"), edit(1, 2, "\xa9a")}, "\u0129a")
}

// P10.2: edits that only the result of the one before allows.
func TestRowOfResults(t *testing.T) {
	rowIs(t, "", []api.Edit{edit(0, 0, "let"), edit(3, 3, " x = 1"), edit(8, 9, "23"), edit(10, 10, "4"), edit(10, 11, "")}, "let x = 23")
	rowIs(t, "a", []api.Edit{edit(0, 1, "\u00e9"), edit(1, 2, "\xa8"), edit(2, 2, "b"), edit(3, 3, "c"), edit(0, 4, "d")}, "d")
	rowRefused(t, "", []api.Edit{edit(0, 0, "let"), edit(4, 4, "x")}, 1, api.ErrArg)
	rowRefused(t, "abc", []api.Edit{edit(3, 3, "d"), edit(0, 4, ""), edit(0, 1, "")}, 2, api.ErrArg)
	rowRefused(t, "abc", []api.Edit{edit(0, 3, ""), edit(3, 3, "d")}, 1, api.ErrArg)
	rowRefused(t, "\u00e9", []api.Edit{edit(0, 0, "a"), edit(1, 1, "a"), edit(3, 3, "a")}, 2, api.ErrForm)
	// Room that an edit makes, and that one takes.
	full := strings.Repeat("a", api.MaxText)
	rowIs(t, full, []api.Edit{edit(0, 1, ""), edit(0, 0, " ")}, " "+full[1:])
	rowRefused(t, full[1:], []api.Edit{edit(0, 0, " "), edit(0, 0, " ")}, 1, api.ErrTooLarge)
	rowRefused(t, full, []api.Edit{edit(0, 0, " "), edit(0, 1, "")}, 0, api.ErrTooLarge)
	// A text that is not valid is none in between, though the next edit would mend it.
	rowRefused(t, "\u00e9", []api.Edit{edit(1, 2, ""), edit(1, 1, "\xa9")}, 0, api.ErrForm)
	rowRefused(t, "", []api.Edit{edit(0, 0, "\xc3"), edit(1, 1, "\xa9")}, 0, api.ErrForm)
}

// P10.2: with an error in the text itself the index is 0, whatever the edits are.
func TestRowOfWrongText(t *testing.T) {
	long := strings.Repeat("a", api.MaxText+1)
	for _, x := range []struct {
		text string
		want api.Errno
	}{{"\xff", api.ErrForm}, {"let x = \xc3", api.ErrForm}, {long, api.ErrTooLarge}, {"\xff" + long, api.ErrTooLarge}} {
		for _, l := range [][]api.Edit{nil, {edit(0, 0, "")}, {edit(0, len(x.text), "a")}, {edit(-1, 0, "")}, {edit(0, 1, ""), edit(9, 3, "")}, {edit(0, 0, "a"), edit(0, 0, "b"), edit(0, 0, "\xff")}} {
			rowRefused(t, x.text, l, 0, x.want)
		}
	}
}

// P10.2: with an error the index of the first edit at which there is one: the first of all, one in the midst, the last one.
func TestRowOfWrongEdits(t *testing.T) {
	wrong := []struct {
		e    api.Edit
		want api.Errno
	}{
		{edit(9, 3, ""), api.ErrArg}, {edit(-1, 0, "a"), api.ErrArg}, {edit(0, 1<<40, ""), api.ErrArg}, {edit(1000, 1000, "\xff"), api.ErrArg},
		{edit(0, 0, "\xff"), api.ErrForm}, {edit(0, 4, "\xe2\x82"), api.ErrForm},
		{edit(0, 0, strings.Repeat("a", api.MaxText)), api.ErrTooLarge}, {edit(2, 3, strings.Repeat("\xff", api.MaxText+1)), api.ErrTooLarge},
	}
	good := []api.Edit{edit(0, 0, "f "), edit(4, 4, "(*"), edit(6, 6, "*)"), edit(0, 2, ""), edit(8, 8, "1.5e"), edit(1, 1, " "), edit(1, 2, ""), edit(0, 0, ""), edit(5, 7, "\u00e9")}
	rowHolds(t, "let x = 1", good)
	for _, x := range wrong {
		for at := range len(good) + 1 {
			l := slices.Insert(slices.Clone(good), at, x.e)
			rowRefused(t, "let x = 1", l, at, x.want)
			rowRefused(t, "let x = 1", l[:at+1], at, x.want)
			for _, second := range wrong {
				rowRefused(t, "let x = 1", append(slices.Clone(l), second.e), at, x.want)
				rowRefused(t, "let x = 1", slices.Insert(slices.Clone(l), at+1, second.e), at, x.want)
			}
		}
	}
}

// P10.2: a long text that is written byte by byte, at its end, at its beginning and in its middle, and taken away again.
func TestRowOfTyping(t *testing.T) {
	s := strings.Repeat("let x' = \"a\\n\" (* b *) 1.5e+3 -. f\n", 20)
	for _, place := range []func(size int) int{func(size int) int { return size }, func(int) int { return 0 }, func(size int) int { return size / 2 }} {
		var l []api.Edit
		size := 0
		for i := range s {
			l = append(l, edit(place(size), place(size), s[i:i+1]))
			size++
		}
		rowHolds(t, "", l)
		for size > 0 {
			at := min(place(size), size-1)
			l = append(l, edit(at, at+1, ""))
			size--
		}
		rowIs(t, "", l, "")
		for n := 0; n < len(l); n += 97 {
			rowHolds(t, "", l[:n])
		}
	}
}

// P10.2: drawn rows, some of them with wrong edits.
func TestDrawnRows(t *testing.T) {
	r, l := source(), append(pieces(), strays()[:2]...)
	ends := map[api.Errno]int{}
	for range 4000 {
		s := someText(r, pieces(), 8)
		var row []api.Edit
		now := s
		for range r.IntN(30) {
			e := someEdit(r, l, len(now))
			if r.IntN(60) == 0 {
				e.Span.To = len(now) + 1 + r.IntN(3)
			}
			row = append(row, e)
			next, err := modelDo(now, e)
			if err == api.OK {
				now = next
			} else if r.IntN(4) > 0 {
				row = row[:len(row)-1]
			}
		}
		_, _, err := modelRow(s, row)
		ends[err]++
		rowHolds(t, s, row)
	}
	if ends[api.OK] < 100 || ends[api.ErrArg] < 100 || ends[api.ErrForm] < 100 {
		t.Errorf("rows that end well, and with errors: %v", ends)
	}
}
