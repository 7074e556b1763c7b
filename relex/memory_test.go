package relex_test

import (
	"slices"
	"strings"
	"testing"
	"unsafe"

	"rostrum/api"
	"rostrum/relex"
)

// place: where a text lies in memory.
func place(s string) uintptr {
	return uintptr(unsafe.Pointer(unsafe.StringData(s)))
}

// inMemory says whether a text lies in the memory of another one.
func inMemory(s, whole string) bool {
	return s != "" && place(s) >= place(whole) && place(s) < place(whole)+uintptr(len(whole))
}

// edits of a text of 9 bytes or more: within it, at both ends, of all of it, and such as leave one part of the result alone.
func edits(size int, put string) []api.Edit {
	return []api.Edit{edit(0, 0, ""), edit(size, size, ""), edit(4, 4, ""), edit(0, 4, ""), edit(4, size, ""), edit(0, size, put), edit(0, 0, put), edit(size, size, put), edit(8, 9, put), edit(3, size-1, put)}
}

// R3: no text of a result is a part of an argument, which it would keep in memory.
func TestTextsAreNew(t *testing.T) {
	whole := strings.Repeat("let x = 1 (* a *) ", 100)
	put := strings.Repeat("2.5 + f ", 100)
	s, put := whole[18:54], put[8:32]
	for _, e := range edits(len(s), put) {
		if got, err := relex.Do(s, e); err != api.OK || inMemory(got, s) || inMemory(got, put) {
			t.Errorf("Do(%q, %s): %q, %v, a part of an argument", s, told(e), got, err)
		}
		one, _, _ := relex.Relex(s, e)
		two, _, _ := relex.Row(s, []api.Edit{e})
		three, _, _ := relex.Row(s, []api.Edit{edit(0, 0, put), edit(0, len(put), ""), e})
		four, _, _ := relex.Row(s, nil)
		for _, x := range slices.Concat(one, two, three, four) {
			if inMemory(x.Text, s) || inMemory(x.Text, put) {
				t.Fatalf("%v of %q, %s: a part of an argument", x, s, told(e))
			}
		}
	}
}

// The texts of the tokens that stay lie in one text, with those of the others: they keep none in memory that was there before.
func TestTextsAreOne(t *testing.T) {
	s := strings.Repeat("let x = 1 (* a *) ", 100)
	var l []api.Edit
	for at := 9; at < len(s); at += 50 {
		l = append(l, edit(at, at, "2"))
	}
	row, _, err := relex.Row(s, l)
	if err != api.OK || len(row) < 800 {
		t.Fatalf("Row: %s, %v", list(row), err)
	}
	one, _, _ := relex.Relex(s, l[20])
	for _, got := range [][]api.Token{row, one} {
		for i, x := range got[1:] {
			if place(x.Text) != place(got[i].Text)+uintptr(len(got[i].Text)) {
				t.Fatalf("%v does not lie behind %v", x, got[i])
			}
		}
	}
}

// spoil writes into a list, and into its spare capacity.
func spoil(l []api.Token) {
	for i := range l[:cap(l)] {
		l[:cap(l)][i] = api.Token{Kind: api.Bad, Text: "spoilt"}
	}
}

// R3: lists are new memory, with their spare capacity: what is written there no later result shows, nor an earlier one.
func TestListsAreNew(t *testing.T) {
	s := "let f x = x + 1.5 (* a *) in f \"b\" "
	for _, e := range append(edits(len(s), "2 - y"), edit(len(s), len(s), "c"), edit(20, 20, strings.Repeat("d ", 40))) {
		text, _ := modelDo(s, e)
		want := tokens(t, text)
		for _, ask := range []func() []api.Token{
			func() []api.Token { l, _, _ := relex.Relex(s, e); return l },
			func() []api.Token { l, _, _ := relex.Row(s, []api.Edit{e}); return l },
			func() []api.Token { l, _, _ := relex.Row(text, nil); return l },
		} {
			one, two := ask(), ask()
			for _, x := range one[len(one):cap(one)] {
				if (x != api.Token{}) {
					t.Errorf("%v stands in spare capacity", x)
				}
			}
			spoil(one)
			three := ask()
			if !slices.Equal(two, want) || !slices.Equal(three, want) {
				t.Errorf("%q, %s: a result shows what was written in another one", s, told(e))
			}
		}
	}
}

// R3: edits that are handed in are not changed, nor read beyond their length.
func TestArgumentsStay(t *testing.T) {
	l := []api.Edit{edit(8, 9, "23"), edit(0, 0, "(**) "), edit(4, 4, "a"), edit(9, 3, ""), edit(0, 0, "\xff")}
	before := slices.Clone(l)
	rowIs(t, "let x = 1", l[:2], "(**) let x = 23")
	rowIs(t, "let x = 1", l[:0], "let x = 1")
	rowIs(t, "let x = 1", l[:3], "(**)a let x = 23")
	rowRefused(t, "let x = 1", l[:4], 3, api.ErrArg)
	rowRefused(t, "let x = 1", l, 3, api.ErrArg)
	if !slices.Equal(l, before) {
		t.Errorf("edits were changed: %v", l)
	}
}
