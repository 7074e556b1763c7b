package relex_test

import (
	"slices"
	"strings"
	"testing"

	"rostrum/api"
	"rostrum/relex"
)

// P10.1, P10.3, P10.4, P10.5: every edit of every short text of the bytes at which tokens change, by all short texts of these.
func TestShortTexts(t *testing.T) {
	for _, x := range []struct {
		pieces     []string
		size, puts int
	}{
		{[]string{"(", "*", ")"}, 4, 2},
		{[]string{"(*", "*)", "a"}, 4, 1},
		{[]string{"\"", "\\", "n", "\n"}, 4, 1},
		{[]string{"\"", "\\q", "\n"}, 3, 2},
		{[]string{"1", ".", "e", "+", "x"}, 4, 1},
		{[]string{"1.5", "e", "+", "3"}, 4, 1},
		{[]string{"a", "_", " ", "let"}, 3, 1},
		{[]string{"-", ">", ".", "|"}, 3, 2},
		{[]string{"a", "(*", "\"", "\n", "1.", "e+"}, 3, 1},
		{[]string{"\u00e9", "\u20ac", "a"}, 3, 1},
	} {
		eachText(x.pieces, x.size, func(s string) {
			eachText(x.pieces, x.puts, func(put string) {
				eachSpan(len(s), func(from, to int) {
					holds(t, s, edit(from, to, put))
				})
			})
		})
	}
}

// P10.1, P10.3, P10.4, P10.5: between each two pieces some put in, each one taken out, and each one put in the place of the other.
func TestPieces(t *testing.T) {
	r, l := source(), pieces()
	for _, a := range l {
		for _, b := range l {
			for range 10 {
				holds(t, a+b, edit(len(a), len(a), l[r.IntN(len(l))]))
			}
			holds(t, a+b, edit(0, len(a), b))
			holds(t, a+b, edit(len(a), len(a+b), ""))
			holds(t, "x "+a+b+" y", edit(2, 2+len(a), ""))
		}
	}
}

// P10.1, P10.3, P10.4, P10.5: drawn texts and edits.
func TestDrawnEdits(t *testing.T) {
	r, l := source(), pieces()
	for range 60000 {
		s := someText(r, l, 14)
		holds(t, s, someEdit(r, l, len(s)))
	}
	// Without what swallows all that follows.
	calm := slices.DeleteFunc(pieces(), func(s string) bool { return strings.ContainsAny(s, "(*)\"") })
	for range 6000 {
		s := someText(r, calm, 80)
		holds(t, s, someEdit(r, l, len(s)))
		holds(t, s, someEdit(r, calm, len(s)))
	}
	mixed := append(pieces(), strays()...)
	for range 20000 {
		s := someText(r, l, 10)
		holds(t, s, someEdit(r, mixed, len(s)))
	}
}

// P10.1, P10.3, P10.4, P10.5: drawn edits of long texts.
func TestLongTexts(t *testing.T) {
	r, l := source(), pieces()
	calm := slices.DeleteFunc(pieces(), func(s string) bool { return strings.ContainsAny(s, "(*)\"") })
	for i := range 40 {
		s := someText(r, [][]string{l, calm}[i%2], 40000)
		s = strings.ToValidUTF8(s[:min(len(s), api.MaxText)], "")
		holds(t, s, someEdit(r, l, len(s)))
		at := r.IntN(len(s) + 1)
		holds(t, s, edit(at, min(at+3, len(s)), "x + 1"))
		holds(t, s, edit(max(0, len(s)-at), len(s), "(*"))
	}
}

// P10.5: an edit and what restores it, many of them, in the order from the last to the first.
func TestThereAndBack(t *testing.T) {
	r, l := source(), pieces()
	for range 1000 {
		s := someText(r, l, 20)
		var there, back []api.Edit
		for now := s; len(there) < 15; {
			e := someEdit(r, l, len(now))
			next, err := modelDo(now, e)
			if err != api.OK {
				continue
			}
			there = append(there, e)
			back = append(back, edit(e.Span.From, e.Span.From+len(e.Text), now[e.Span.From:e.Span.To]))
			now = next
		}
		slices.Reverse(back)
		rowIs(t, s, append(there, back...), s)
	}
}

// R2: the result depends on the arguments alone, however often and in whatever order it is asked.
func TestAgain(t *testing.T) {
	type asked struct {
		text string
		e    api.Edit
		l    []api.Token
		kept relex.Kept
	}
	r, l := source(), pieces()
	var row []asked
	for range 200 {
		s := someText(r, l, 10)
		x := asked{text: s, e: someEdit(r, l, len(s))}
		x.l, x.kept, _ = relex.Relex(x.text, x.e)
		row = append(row, x)
	}
	for range 5000 {
		x := row[r.IntN(len(row))]
		if r.IntN(3) == 0 {
			relex.Relex(x.text, edit(-1, 0, ""))
			relex.Row(x.text, []api.Edit{x.e, edit(9, 3, "")})
		}
		if got, k, _ := relex.Relex(x.text, x.e); !slices.Equal(got, x.l) || k != x.kept {
			t.Fatalf("Relex(%s, %s) again: %s, %v", short(x.text), told(x.e), list(got), k)
		}
	}
}
