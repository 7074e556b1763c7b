package green_test

import (
	"slices"
	"testing"

	"rostrum/api"
	"rostrum/green"
)

// example is the chapter's own tree.
func example() api.Node {
	return doc(leaf(api.Word, "let"), name("x", blank(" ")), missing("="), end(blank("\n")))
}

// The chapter's examples.
func TestExamples(t *testing.T) {
	n := example()
	holds(t, n)
	check(t, n, api.OK)
	if s := green.Text(n); s != "let x\n" {
		t.Errorf("Text: %q", s)
	}
	want := []api.Token{{Kind: api.Word, Text: "let"}, {Kind: api.Blank, Text: " "}, {Kind: api.Name, Text: "x"}, {Kind: api.Blank, Text: "\n"}}
	if l := green.Tokens(n); !slices.Equal(l, want) {
		t.Errorf("Tokens: %v", l)
	}
	spans(t, n, []int{1}, 3, 5, 4, 5)
	spans(t, n, []int{2}, 5, 5, 5, 5)
	found(t, n, 3, []int{1})
	found(t, n, 5, []int{3})
	if path, e := green.Find(n, 6); e != api.ErrArg || len(path) > 0 {
		t.Errorf("Find(6): %v, %v", path, e)
	}
	n.Kids[1].Kids = nil
	check(t, n, api.ErrForm)
	holds(t, n)
}

// spans holds Full and Own against numbers.
func spans(t *testing.T, n api.Node, path []int, from, to, ownFrom, ownTo int) {
	t.Helper()
	if got, e := green.Full(n, path); e != api.OK || got != (api.Span{From: from, To: to}) {
		t.Errorf("Full(%s, %v): %v, %v, not %d to %d", brief(n), path, got, e, from, to)
	}
	if got, e := green.Own(n, path); e != api.OK || got != (api.Span{From: ownFrom, To: ownTo}) {
		t.Errorf("Own(%s, %v): %v, %v, not %d to %d", brief(n), path, got, e, ownFrom, ownTo)
	}
}

// found holds Find against a path.
func found(t *testing.T, n api.Node, at int, want []int) {
	t.Helper()
	if got, e := green.Find(n, at); e != api.OK || !slices.Equal(got, want) {
		t.Errorf("Find(%s, %d): %v, %v, not %v", brief(n), at, got, e, want)
	}
}

// P11.1: texts and tokens, of nodes of each Kind, valid and not.
func TestTexts(t *testing.T) {
	odd := leaf(api.Name, "y", doc(name("a", blank(" ")), missing("b", name("c"))), leaf(api.Blank, "\n", remark("(**)")))
	for _, x := range []struct {
		n    api.Node
		text string
		want []api.Token
	}{
		{api.Node{}, "", nil},
		{name("x"), "x", []api.Token{{Kind: api.Name, Text: "x"}}},
		{name("x", blank(" "), remark("(**)")), " (**)x", []api.Token{{Kind: api.Blank, Text: " "}, {Kind: api.Remark, Text: "(**)"}, {Kind: api.Name, Text: "x"}}},
		{end(), "", nil},
		{end(blank(" ")), " ", []api.Token{{Kind: api.Blank, Text: " "}}},
		{blank(" "), " ", []api.Token{{Kind: api.Blank, Text: " "}}},
		// Only Kind 0 without a text is no token.
		{leaf(api.Name, ""), "", []api.Token{{Kind: api.Name}}},
		{leaf(0, "x"), "x", []api.Token{{Text: "x"}}},
		{leaf(0, "", leaf(0, " "), leaf(api.Blank, "")), " ", []api.Token{{Text: " "}, {Kind: api.Blank}}},
		{leaf(200, "\xff"), "\xff", []api.Token{{Kind: 200, Text: "\xff"}}},
		// Missing has none, whatever it has.
		{missing("="), "", nil},
		{missing("=", name("x"), doc(name("y"))), "", nil},
		{api.Node{Kind: api.Missing, Token: api.Token{Kind: api.Sign, Text: "="}}, "", nil},
		{doc(name("a"), missing("b", name("c")), name("d")), "ad", []api.Token{{Kind: api.Name, Text: "a"}, {Kind: api.Name, Text: "d"}}},
		// The token of what is no Leaf is not told.
		{api.Node{Kind: api.Doc, Token: api.Token{Kind: api.Name, Text: "a"}, Kids: []api.Node{name("b")}}, "b", []api.Token{{Kind: api.Name, Text: "b"}}},
		{api.Node{Kind: 0, Token: api.Token{Kind: api.Name, Text: "a"}, Kids: []api.Node{name("b")}}, "b", []api.Token{{Kind: api.Name, Text: "b"}}},
		{api.Node{Kind: 19, Token: api.Token{Kind: api.Name, Text: "a"}, Kids: []api.Node{name("b")}}, "b", []api.Token{{Kind: api.Name, Text: "b"}}},
		{api.Node{Kind: 255, Kids: []api.Node{name("b"), end(), name("c")}}, "bc", []api.Token{{Kind: api.Name, Text: "b"}, {Kind: api.Name, Text: "c"}}},
		// Kids of a Leaf that are no Leaves, and that have Kids.
		{odd, " a(**)\ny", []api.Token{{Kind: api.Blank, Text: " "}, {Kind: api.Name, Text: "a"}, {Kind: api.Remark, Text: "(**)"}, {Kind: api.Blank, Text: "\n"}, {Kind: api.Name, Text: "y"}}},
		{end(end(end(name("x")))), "x", []api.Token{{Kind: api.Name, Text: "x"}}},
	} {
		holds(t, x.n)
		if got := green.Text(x.n); got != x.text {
			t.Errorf("Text(%s): %q, not %q", brief(x.n), got, x.text)
		}
		if got := green.Tokens(x.n); !slices.Equal(got, x.want) {
			t.Errorf("Tokens(%s): %v, not %v", brief(x.n), got, x.want)
		}
	}
}

// P11.2: spans of nodes that begin or end with blanks and remarks, and of such as have nothing else, at the beginning, in the middle and at the end.
func TestSpans(t *testing.T) {
	n := doc(
		node(api.Decl, name("a", blank(" "), remark("(**)")), missing("="), end(blank("\n"))), // 0 to 7
		end(remark("(* *)"), blank("  ")),                        // 7 to 14
		missing("in"),                                            // at 14
		node(api.Round),                                          // at 14
		node(api.List, end(remark("(**)")), end()),               // 14 to 18
		node(api.Apply, sign("("), node(api.Skipped, sign(")"))), // 18 to 20
		end(blank("\n")),                                         // 20 to 21
		end(),                                                    // at 21
	)
	check(t, n, api.OK)
	m := holds(t, n)
	if len(m.spots) != 24 {
		t.Errorf("%d nodes", len(m.spots))
	}
	spans(t, n, nil, 0, 21, 5, 20)
	spans(t, n, []int{}, 0, 21, 5, 20)
	spans(t, n, []int{0}, 0, 7, 5, 6)
	spans(t, n, []int{0, 0}, 0, 6, 5, 6)
	spans(t, n, []int{0, 0, 0}, 0, 1, 1, 1)
	spans(t, n, []int{0, 0, 1}, 1, 5, 5, 5)
	spans(t, n, []int{0, 1}, 6, 6, 6, 6)
	spans(t, n, []int{0, 2}, 6, 7, 7, 7)
	spans(t, n, []int{0, 2, 0}, 6, 7, 7, 7)
	spans(t, n, []int{1}, 7, 14, 14, 14)
	spans(t, n, []int{1, 0}, 7, 12, 12, 12)
	spans(t, n, []int{1, 1}, 12, 14, 14, 14)
	spans(t, n, []int{2}, 14, 14, 14, 14)
	spans(t, n, []int{3}, 14, 14, 14, 14)
	spans(t, n, []int{4}, 14, 18, 18, 18)
	spans(t, n, []int{4, 1}, 18, 18, 18, 18)
	spans(t, n, []int{5}, 18, 20, 18, 20)
	spans(t, n, []int{5, 1}, 19, 20, 19, 20)
	spans(t, n, []int{5, 1, 0}, 19, 20, 19, 20)
	spans(t, n, []int{6}, 20, 21, 21, 21)
	spans(t, n, []int{7}, 21, 21, 21, 21)
	for _, path := range [][]int{{8}, {-1}, {0, 3}, {0, -1}, {0, 0, 2}, {0, 0, 0, 0}, {0, 1, 0}, {3, 0}, {7, 0}, {5, 1, 0, 0}, {0, 0, -1}} {
		leadsNowhere(t, n, path)
	}
	for at, want := range [][]int{{0, 0}, {0, 0}, {0, 0}, {0, 0}, {0, 0}, {0, 0}, {0, 2}, {1}, {1}, {1}, {1}, {1}, {1}, {1}, {4, 0}, {4, 0}, {4, 0}, {4, 0}, {5, 0}, {5, 1, 0}, {6}} {
		found(t, n, at, want)
	}
}

// P11.2: spans where what decides is a token's Kind, and whether it is the empty one; not what its text is.
func TestSpansOfOddTokens(t *testing.T) {
	for _, x := range []struct {
		n        api.Node
		from, to int
	}{
		{doc(blank(" "), leaf(api.Name, ""), blank(" ")), 1, 1},
		{doc(blank(" "), leaf(0, ""), blank(" ")), 2, 2},
		{doc(blank(" "), leaf(0, "x"), blank(" ")), 1, 2},
		{doc(blank(" "), leaf(api.Name, " "), blank(" ")), 1, 2},
		{doc(blank("a"), leaf(api.Remark, "b"), name("c"), blank("d")), 2, 3},
		{doc(leaf(api.Name, ""), name("c"), leaf(api.Name, "")), 0, 1},
		{doc(leaf(api.Name, ""), blank("   ")), 0, 0},
		{doc(blank("   "), leaf(api.Bad, "")), 3, 3},
		{doc(name("a", sign("-", blank(" "))), blank(" ")), 1, 3},
		{blank(" "), 1, 1},
		{remark("(**)"), 4, 4},
		{leaf(99, "abc"), 0, 3},
	} {
		holds(t, x.n)
		size := len(green.Text(x.n))
		spans(t, x.n, nil, 0, size, x.from, x.to)
	}
}

// P11.2: what is within a Missing is not in the text: it has the place of the Missing, and no bytes.
func TestWithinMissing(t *testing.T) {
	n := doc(name("a"), missing("=", name("b", blank(" ")), doc(name("c"))), sign("+", missing("x", name("d"))), name("e"))
	holds(t, n)
	check(t, n, api.ErrForm)
	for _, path := range [][]int{{1}, {1, 0}, {1, 0, 0}, {1, 1}, {1, 1, 0}, {2, 0}, {2, 0, 0}} {
		spans(t, n, path, 1, 1, 1, 1)
	}
	spans(t, n, nil, 0, 3, 0, 3)
	spans(t, n, []int{2}, 1, 2, 1, 2)
	spans(t, n, []int{3}, 2, 3, 2, 3)
	if x, e := green.At(n, []int{1, 0}); e != api.OK || told(x) != told(name("b", blank(" "))) {
		t.Errorf("At: %s, %v", brief(x), e)
	}
	if x, e := green.Put(n, []int{1, 1, 0}, name("z")); e != api.OK || x.Kids[1].Kids[1].Kids[0].Token.Text != "z" || green.Text(x) != "a+e" {
		t.Errorf("Put: %s, %v", brief(x), e)
	}
	for at, want := range [][]int{{0}, {2}, {3}} {
		found(t, n, at, want)
	}
	// By itself it has its text.
	x, _ := green.At(n, []int{1, 0})
	spans(t, x, nil, 0, 2, 1, 2)
}

// P11.2, P11.4: Leaves of no bytes before, between and after those that have some; Find goes by the bytes alone.
func TestFindAmongEmpty(t *testing.T) {
	n := doc(end(), missing("("), name("a"), end(), end(), node(api.Round, end(), missing(")")), node(api.List, node(api.Round, sign("+")), end()), end(), name("b", blank(" ")), end())
	check(t, n, api.OK)
	holds(t, n)
	for at, want := range [][]int{{2}, {6, 0, 0}, {8}, {8}} {
		found(t, n, at, want)
	}
	for _, none := range []api.Node{{}, end(), missing("x"), missing("x", name("a")), doc(), doc(end(), end()), leaf(api.Name, ""), doc(missing("a", name("b")))} {
		for _, at := range []int{-1, 0, 1} {
			if path, e := green.Find(none, at); e != api.ErrArg || len(path) > 0 {
				t.Errorf("Find(%s, %d): %v, %v", brief(none), at, path, e)
			}
		}
		holds(t, none)
	}
}

// P11.2, P11.4: the tree itself is the Leaf; and the outermost one, however many there are within one another.
func TestFindOfLeaf(t *testing.T) {
	n := name("abc", blank(" "), remark("(**)"))
	for at := range 8 {
		found(t, n, at, nil)
	}
	holds(t, n)
	odd := doc(end(), name("x", doc(sign("-"), name("y", end(name("z")))), node(0, name("w"))))
	for at := range 4 {
		found(t, odd, at, []int{1})
	}
	holds(t, odd)
}

// P11.1: trees that differ in one thing; lists that are none and that are empty are the same.
func TestSame(t *testing.T) {
	n := doc(name("x", blank(" ")), missing("="), node(api.Round), end())
	empty := doc(name("x", api.Node{Kind: api.Leaf, Token: api.Token{Kind: api.Blank, Text: " "}, Kids: []api.Node{}}), missing("="), api.Node{Kind: api.Round, Kids: []api.Node{}}, end(make([]api.Node, 0, 3)...))
	empty.Kids[1].Kids = []api.Node{}
	l := []api.Node{
		n, {}, doc(), node(api.Decl), missing(""), missing("="), end(), name("x"), name("y"), leaf(api.Word, "x"), leaf(0, "x"), name(""), name("x", blank(" ")), name("x", blank("  ")), name("x", remark(" ")), name("x", blank(" "), blank(" ")), name("x", end(blank(" "))),
		doc(n), doc(n, n), doc(n, doc()), doc(doc(), n), missing("=", name("x")), missing("=", name("y")), missing("=", name("x", name("z"))),
		{Kind: api.Doc, Token: api.Token{Kind: api.Name}}, {Kind: api.Doc, Token: api.Token{Text: "x"}}, {Kind: api.Missing, Token: api.Token{Kind: api.Sign, Text: "="}}, {Kind: 255}, {Kind: 19},
		doc(name("x", blank(" ")), missing("="), node(api.Round)), doc(name("x", blank(" ")), missing("="), end(), node(api.Round)), doc(name("x", blank(" ")), missing("in"), node(api.Round), end()),
	}
	for i, a := range l {
		for j, b := range l {
			if green.Same(a, b) != (i == j) {
				t.Errorf("Same(%s, %s): %v", brief(a), brief(b), i != j)
			}
		}
	}
	if !green.Same(n, empty) || !green.Same(empty, n) || !green.Same(api.Node{Kids: []api.Node{}}, api.Node{}) || !green.Same(api.Node{}, api.Node{Kids: []api.Node{}}) {
		t.Error("Same: an empty list and none")
	}
}

// R6: trees with lists that are empty answer as those without.
func TestEmptyLists(t *testing.T) {
	n := doc(name("x", blank(" ")), missing("="), node(api.Round), end(blank("\n")))
	empty := doc(leaf(api.Name, "x", api.Node{Kind: api.Leaf, Token: api.Token{Kind: api.Blank, Text: " "}, Kids: []api.Node{}}), api.Node{Kind: api.Missing, Token: api.Token{Text: "="}, Kids: []api.Node{}}, api.Node{Kind: api.Round, Kids: make([]api.Node, 0, 4)}, end(blank("\n")))
	for _, x := range []api.Node{n, empty} {
		check(t, x, api.OK)
		for _, s := range holds(t, x).spots {
			puts(t, x, s, empty)
		}
	}
}
