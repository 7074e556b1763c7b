package lex_test

import (
	"slices"
	"strings"
	"testing"
	"unsafe"

	"rostrum/api"
	"rostrum/lex"
)

// lossless: P9.3: the tokens' texts are the text, none is empty, each one by itself is that token.
func lossless(t *testing.T, s string, l []api.Token) {
	t.Helper()
	if lex.Join(l) != s {
		t.Fatalf("Tokens(%s): together they are not the text: %s", short(s), list(l))
	}
	for _, x := range l {
		if one, e := lex.One(x.Text); x.Text == "" || one != x || e != api.OK {
			t.Fatalf("%v of %s by itself: %v, %v", x, short(s), one, e)
		}
	}
}

// fromLeft: P9.4: the text after each token has the tokens that follow it.
func fromLeft(t *testing.T, s string, l []api.Token) {
	t.Helper()
	rest := s
	for i, x := range l {
		rest = rest[len(x.Text):]
		if got, e := lex.Tokens(rest); e != api.OK || !slices.Equal(got, l[i+1:]) {
			t.Fatalf("Tokens(%s), after %v of %s: %s, %v", short(rest), x, short(s), list(got), e)
		}
	}
}

// separated: P9.5: the tokens, except those that it excludes, with 0A between each two, are these tokens.
func separated(t *testing.T, l []api.Token) {
	t.Helper()
	var want []api.Token
	for _, x := range l {
		if x.Kind == api.Blank || x.Kind == api.Bad && strings.HasPrefix(x.Text, "(*") {
			continue
		}
		if len(want) > 0 {
			want = append(want, token('b', "\n"))
		}
		want = append(want, x)
	}
	s := lex.Join(want)
	if got, e := lex.Tokens(s); e != api.OK || !slices.Equal(got, want) {
		t.Fatalf("Tokens(%s): %s, %v, not %s", short(s), list(got), e, list(want))
	}
}

// neighbours: P9.2: of each two that are side by side Apart holds.
func neighbours(t *testing.T, l []api.Token) {
	t.Helper()
	for i := 1; i < len(l); i++ {
		if !lex.Apart(l[i-1], l[i]) {
			t.Fatalf("Apart(%v, %v), which are side by side", l[i-1], l[i])
		}
	}
}

// holds holds everything that is promised of a text.
func holds(t *testing.T, s string) {
	t.Helper()
	l := agrees(t, s)
	lossless(t, s, l)
	fromLeft(t, s, l)
	separated(t, l)
	neighbours(t, l)
}

// P9.3, P9.4, P9.5: all short texts of the bytes at which each row changes.
func TestShortTexts(t *testing.T) {
	for _, x := range []struct {
		chars string
		size  int
	}{{"(*)", 8}, {"(*)a\n", 5}, {"\"\\nq\n", 5}, {"\"\\ ", 7}, {"01.eE+-", 5}, {"1.e-", 6}, {"a_A'1", 4}, {" \t\n\ra", 4}, {"(*)\"\\\na_1.e+->:&|=\u00e9", 3}} {
		eachText(x.chars, x.size, func(s string) { holds(t, s) })
	}
}

// P9.3, P9.4, P9.5: each two pieces, and drawn ones in a row.
func TestDrawnTexts(t *testing.T) {
	l := pieces()
	for _, a := range l {
		for _, b := range l {
			holds(t, a+b)
		}
	}
	r := source()
	for range 20000 {
		holds(t, someText(r, l, 12))
	}
	// Without what swallows all that follows.
	short := slices.DeleteFunc(slices.Clone(l), func(s string) bool { return strings.Contains(s, "(*") && first(s).Kind == api.Bad })
	for range 2000 {
		holds(t, someText(r, short, 60))
	}
}

// P9.1, P9.3, P9.5: long drawn texts.
func TestLongTexts(t *testing.T) {
	l := pieces()
	calm := slices.DeleteFunc(slices.Clone(l), func(s string) bool { return strings.ContainsAny(s, "(") })
	r := source()
	for i := range 30 {
		s := someText(r, [][]string{l, calm}[i%2], 30000)
		s = strings.ToValidUTF8(s[:min(len(s), api.MaxText)], "")
		tokens := agrees(t, s)
		lossless(t, s, tokens)
		neighbours(t, tokens)
		half, _ := lex.Tokens(strings.ToValidUTF8(s[:len(s)/3], ""))
		separated(t, half)
	}
}

// P9.5: any tokens, in any order.
func TestSeparation(t *testing.T) {
	l := everyToken()
	for _, a := range l {
		separated(t, []api.Token{a})
		for _, b := range l {
			separated(t, []api.Token{a, b, a})
		}
	}
	r := source()
	for range 2000 {
		var row []api.Token
		for range r.IntN(40) {
			row = append(row, l[r.IntN(len(l))])
		}
		separated(t, row)
	}
}

// R2: the result depends on the arguments alone, however often and in whatever order it is asked.
func TestAgain(t *testing.T) {
	l, r := pieces(), source()
	texts, want := []string{}, [][]api.Token{}
	for range 200 {
		s := someText(r, l, 10)
		texts, want = append(texts, s), append(want, agrees(t, s))
	}
	for range 5000 {
		i := r.IntN(len(texts))
		if got, e := lex.Tokens(texts[i]); e != api.OK || !slices.Equal(got, want[i]) {
			t.Fatalf("Tokens(%s) again: %s, %v", short(texts[i]), list(got), e)
		}
	}
}

// R3: the list of Tokens is new memory, with its spare capacity: what is written there no later result shows, nor an earlier one.
func TestTokensAreNew(t *testing.T) {
	for _, s := range []string{"", "a", "let x = 1 (* a *)", strings.Repeat("a ", 100), "1.e+\"\n"} {
		want := model(s)
		one, _ := lex.Tokens(s)
		two, _ := lex.Tokens(s)
		for _, x := range one[len(one):cap(one)] {
			if (x != api.Token{}) {
				t.Errorf("%v stands in spare capacity", x)
			}
		}
		for i := range one[:cap(one)] {
			one[:cap(one)][i] = token('x', "spoilt")
		}
		three, _ := lex.Tokens(s)
		if !slices.Equal(two, want) || !slices.Equal(three, want) {
			t.Errorf("Tokens(%q) shows what was written in another result", s)
		}
	}
}

// R3: what is handed in is not changed, nor read beyond its length.
func TestArgumentsStay(t *testing.T) {
	whole := []api.Token{token('n', "a"), token('b', " "), token('i', "1"), token('x', "junk"), token('x', "\xff")}
	before := slices.Clone(whole)
	if got := lex.Join(whole[:3]); got != "a 1" {
		t.Errorf("Join: %q", got)
	}
	if got := lex.Join(whole[:0]); got != "" {
		t.Errorf("Join of none: %q", got)
	}
	lex.Apart(whole[0], whole[1])
	lex.Ahead(whole[1])
	if !slices.Equal(whole, before) {
		t.Errorf("tokens were changed: %v", whole)
	}
}

// inMemory says whether a text lies in the memory of another one.
func inMemory(s, whole string) bool {
	from := uintptr(unsafe.Pointer(unsafe.StringData(whole)))
	at := uintptr(unsafe.Pointer(unsafe.StringData(s)))
	return s != "" && at >= from && at < from+uintptr(len(whole))
}

// R3: no text of a result is a part of an argument, which it would keep in memory.
func TestTextsAreNew(t *testing.T) {
	long := strings.Repeat("long 1.5 (* a *) \"b\" -> ", 100)
	l, e := lex.Tokens(long[240:480])
	if e != api.OK || len(l) != 100 {
		t.Fatalf("Tokens: %s, %v", list(l), e)
	}
	for _, x := range l {
		if inMemory(x.Text, long) {
			t.Fatalf("%v is a part of the text", x)
		}
	}
	if one, e := lex.One(long[:4]); e != api.OK || inMemory(one.Text, long) {
		t.Errorf("One: %v, %v, a part of the text", one, e)
	}
	for _, l := range [][]api.Token{{token('n', long)}, {token('n', ""), token('n', long)}, {token('n', long[:4]), token('n', long[4:8])}} {
		if inMemory(lex.Join(l), long) {
			t.Error("Join: a part of a token")
		}
	}
}
