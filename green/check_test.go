package green_test

import (
	"slices"
	"strings"
	"testing"

	"rostrum/api"
	"rostrum/green"
)

// broken: trees that are not valid, by themselves and in others, which they make not valid.
func broken(t *testing.T, l []api.Node) {
	t.Helper()
	for _, x := range l {
		for _, n := range []api.Node{x, doc(x), doc(name("a"), end(blank("\n")), x, end(blank("\n")), sign("+")), doc(node(api.Decl, node(api.Round, node(api.List, x))))} {
			check(t, n, api.ErrForm)
			holds(t, n)
		}
	}
}

// sound: trees that are valid, by themselves and in others.
func sound(t *testing.T, l []api.Node) {
	t.Helper()
	for _, x := range l {
		for _, n := range []api.Node{x, doc(x), doc(name("a"), sign(","), x, end(remark("(**)")), sign("+")), doc(node(api.Decl, node(api.Round, node(api.List, x))))} {
			check(t, n, api.OK)
			holds(t, n)
		}
	}
}

// P11.1: one token of each kind, and one node of each Kind.
func TestValid(t *testing.T) {
	sound(t, []api.Node{
		leaf(api.Word, "let"), leaf(api.Word, "mod"), name("x'"), leaf(api.Int, "007"), leaf(api.Float, "1."), leaf(api.Float, "1.5e-3"), leaf(api.Text, `"a\n"`), sign("_"), sign("->"), sign("("),
		leaf(api.Bad, "A"), leaf(api.Bad, "\u20ac"), leaf(api.Bad, "1.0e24"), leaf(api.Bad, "\"\\q\""),
		name("x", blank(" ")), name("x", blank(" "), remark("(* a *)"), blank("\n"), remark("(**)"), remark("(* (**) *)")),
		end(), end(blank(" ")), end(remark("(**)")), end(blank(" "), remark("(**)"), blank(" "), remark("(**)")),
		missing(""), missing("="), missing("let rec\n(*"), missing("\xff"),
		doc(), doc(doc(doc())), doc(end(), missing(")"), end()),
	})
	// Each Kind from 0 to 255, without Kids and with some.
	for kind := range 256 {
		bare, full := node(uint8(kind)), node(uint8(kind), name("x"), missing("x"), node(api.Decl))
		switch {
		case kind >= 3 && kind <= 18:
			sound(t, []api.Node{bare, full, node(uint8(kind), full, bare)})
		case kind == 1 || kind == 2:
			sound(t, []api.Node{bare})
			broken(t, []api.Node{full})
		default:
			broken(t, []api.Node{bare, full})
		}
	}
	// What is Bad up to the end of its line, or of the text, is valid where nothing else follows it.
	check(t, leaf(api.Bad, "\"a", blank(" ")), api.OK)
	check(t, doc(name("x"), leaf(api.Bad, "\"a"), end(blank("\n "))), api.OK)
	check(t, doc(name("x"), leaf(api.Bad, "(* a", blank(" "))), api.OK)
	check(t, doc(name("x"), leaf(api.Bad, "(* a"), missing("x"), end()), api.OK)
}

// P11.1: Leaves whose Token is no token by itself, or is a Blank or a Remark.
func TestWrongLeaves(t *testing.T) {
	broken(t, []api.Node{
		blank(" "), blank("\n\n"), remark("(**)"), leaf(api.Blank, "a"), leaf(api.Blank, ""), leaf(api.Remark, "a"), leaf(api.Remark, ""),
		leaf(api.Name, ""), leaf(api.Sign, ""), leaf(api.Bad, ""), leaf(99, ""), leaf(0, "x"), leaf(0, " "), leaf(0, "\xff"), leaf(10, "x"), leaf(255, "x"),
		leaf(api.Word, "x"), leaf(api.Name, "let"), leaf(api.Name, "_"), leaf(api.Int, "1."), leaf(api.Float, "1"), leaf(api.Float, "1.0e24"), leaf(api.Text, `"a`), leaf(api.Text, `"\q"`), leaf(api.Sign, "a"), leaf(api.Bad, "a"), leaf(api.Bad, "(**)"),
		leaf(api.Name, " "), leaf(api.Name, "(**)"), leaf(api.Bad, " "),
		name("a b"), name("a "), name(" a"), name("a-"), sign("--"), sign("-a"), leaf(api.Int, "1e5"), leaf(api.Bad, "\u20ac\u20ac"), leaf(api.Bad, "\"a\n"), leaf(api.Text, `"""`),
		leaf(api.Bad, "\xff"), leaf(api.Bad, "\xc3"), leaf(api.Text, "\"\xff\""), name("a\xff"), leaf(api.Bad, "\xed\xa0\x80"),
	})
	// It has what would be a token together with its Kids, or with its neighbour.
	broken(t, []api.Node{leaf(api.Remark, "*)", leaf(api.Remark, "(*")), doc(sign("("), leaf(api.Remark, "**)")), doc(leaf(api.Bad, "\xc3"), leaf(api.Bad, "\xa9")), doc(leaf(api.Bad, "\""), leaf(api.Text, "a\""))})
}

// P11.1: Leaves' Kids that are no Leaves, have Kids, or are neither a Blank nor a Remark.
func TestWrongKidsOfLeaves(t *testing.T) {
	for _, kid := range []api.Node{
		name("y"), sign("-"), leaf(api.Word, "let"), leaf(api.Bad, "\u20ac"), leaf(api.Int, "1"), end(), missing(""), missing("="), doc(), doc(blank(" ")), node(api.Skipped, blank(" ")), node(0), node(200), {Kind: api.Doc, Token: api.Token{Kind: api.Blank, Text: " "}}, {Kind: 0, Token: api.Token{Kind: api.Blank, Text: " "}}, {Kind: api.Missing, Token: api.Token{Kind: api.Blank, Text: " "}},
		end(blank(" ")), leaf(api.Blank, " ", blank("\n")), leaf(api.Blank, " ", remark("(**)")), leaf(api.Remark, "(**)", blank(" ")), leaf(api.Blank, " ", end()), leaf(api.Blank, " ", missing("")), leaf(api.Blank, " ", doc()),
		leaf(api.Blank, ""), leaf(api.Remark, ""), leaf(api.Blank, "a"), leaf(api.Blank, " a"), leaf(api.Blank, "(**)"), leaf(api.Remark, " "), leaf(api.Remark, "(*"), leaf(api.Remark, "(**) "), leaf(api.Remark, "(**)(**)"), leaf(api.Bad, "(*"), leaf(0, " "), leaf(api.Name, " "), leaf(200, " "), leaf(api.Remark, "(*\xff*)"),
	} {
		broken(t, []api.Node{sign("+", kid), end(kid), sign("+", kid, blank(" ")), sign("+", blank(" "), remark("(**)"), kid), end(remark("(**)"), kid)})
	}
	broken(t, []api.Node{name("x", blank(" "), blank(" ")), name("x", blank("\n"), blank(" "), remark("(**)")), end(blank(" "), blank(" "))})
}

// P11.1: Missing with Kids, or with a Token of another Kind; other nodes with a Token.
func TestWrongNodes(t *testing.T) {
	broken(t, []api.Node{
		missing("=", name("x")), missing("=", blank(" ")), missing("", end()), missing("", missing("")), missing("", doc()),
		{Kind: api.Missing, Token: api.Token{Kind: api.Sign, Text: "="}}, {Kind: api.Missing, Token: api.Token{Kind: api.Blank}}, {Kind: api.Missing, Token: api.Token{Kind: 255, Text: "="}},
	})
	for kind := uint8(3); kind <= 18; kind++ {
		broken(t, []api.Node{{Kind: kind, Token: api.Token{Kind: api.Name}}, {Kind: kind, Token: api.Token{Text: "x"}}, {Kind: kind, Token: api.Token{Kind: api.Name, Text: "x"}, Kids: []api.Node{name("x")}}, {Kind: kind, Token: api.Token{Kind: 255}, Kids: []api.Node{end()}}})
	}
	broken(t, []api.Node{{}, node(0, name("x")), node(19), node(19, name("x")), node(20), node(127), node(255), node(255, missing("")), {Kind: 0, Token: api.Token{Kind: api.Name, Text: "x"}}, {Kind: 19, Token: api.Token{Kind: api.Name, Text: "x"}}})
}

// P11.1: tokens, each one valid, that run together or part in the tree's text, wherever each of them stands.
func TestRunTogether(t *testing.T) {
	for _, x := range []struct {
		a, b api.Node
		want api.Errno
	}{
		{name("a"), name("b"), api.ErrForm}, {name("a"), leaf(api.Word, "let"), api.ErrForm}, {leaf(api.Word, "let"), leaf(api.Int, "1"), api.ErrForm}, {name("a"), sign("_"), api.ErrForm}, {name("a"), leaf(api.Bad, "'"), api.ErrForm}, {name("a"), leaf(api.Bad, "A"), api.ErrForm},
		{sign("-"), sign(">"), api.ErrForm}, {sign("<"), sign(">="), api.ErrForm}, {sign("|"), sign("||"), api.ErrForm}, {sign("+"), leaf(api.Bad, "."), api.ErrForm}, {sign("("), sign("*"), api.ErrForm}, {sign("("), sign("*."), api.ErrForm}, {leaf(api.Bad, ":"), leaf(api.Bad, ":"), api.ErrForm},
		{leaf(api.Int, "1"), leaf(api.Int, "2"), api.ErrForm}, {leaf(api.Int, "1"), leaf(api.Bad, "."), api.ErrForm}, {leaf(api.Float, "1."), leaf(api.Int, "5"), api.ErrForm}, {leaf(api.Float, "1."), name("e5"), api.ErrForm},
		{leaf(api.Bad, "\"a"), name("b"), api.ErrForm}, {leaf(api.Bad, "\"a"), end(blank(" ")), api.ErrForm}, {leaf(api.Bad, "\"a"), end(blank("\n")), api.OK}, {leaf(api.Bad, "(* a"), name("b"), api.ErrForm}, {leaf(api.Bad, "(* a"), end(blank("\n")), api.ErrForm}, {leaf(api.Bad, "(* a"), end(remark("(**)")), api.ErrForm}, {leaf(api.Bad, "(*"), sign(")"), api.ErrForm},
		{end(blank(" ")), end(blank(" ")), api.ErrForm}, {end(blank(" ")), name("a", blank("\n")), api.ErrForm}, {end(blank(" ")), name("a", remark("(**)")), api.OK}, {end(remark("(**)")), name("a", remark("(**)")), api.OK},
		{name("a"), sign("-"), api.OK}, {sign("-"), name("a"), api.OK}, {leaf(api.Int, "1"), name("e5"), api.OK}, {leaf(api.Float, "1."), name("e"), api.OK}, {leaf(api.Bad, "\u20ac"), leaf(api.Bad, "\u20ac"), api.OK}, {sign("->"), sign(">"), api.OK}, {leaf(api.Text, `""`), leaf(api.Text, `""`), api.OK}, {sign("("), sign(")"), api.OK},
		{name("a"), name("b", blank(" ")), api.OK}, {name("a"), name("b", remark("(**)")), api.OK}, {leaf(api.Int, "1"), leaf(api.Bad, ".", blank("\n")), api.OK}, {sign("("), sign("*", remark("(**)")), api.OK},
	} {
		for _, n := range []api.Node{
			doc(x.a, x.b), doc(x.a, end(), x.b), doc(x.a, missing("x"), node(api.Round), x.b), doc(node(api.Decl, node(api.Apply, sign("+", blank("\n")), x.a)), node(api.Round, missing("("), x.b)), node(api.Apply, doc(x.a), x.b), node(api.List, x.a, doc(end(), x.b)),
		} {
			check(t, n, x.want)
			holds(t, n)
		}
	}
}

// P11.1: the text's size, at the limit and beyond it, and tokens of that size.
func TestLimit(t *testing.T) {
	most := api.MaxText
	for _, n := range []api.Node{
		doc(slices.Repeat([]api.Node{sign("(")}, most)...),
		doc(slices.Repeat([]api.Node{name("a", blank(" "))}, most/2)...),
		doc(slices.Repeat([]api.Node{node(api.Apply, name("abc", remark("(**)"), blank("\n"))), missing("a"), end()}, most/8)...),
		name(strings.Repeat("a", most)), end(blank(strings.Repeat("\n", most))), end(remark("(*" + strings.Repeat("\u00e9", most/2-2) + "*)")), leaf(api.Bad, "\""+strings.Repeat("a", most-1)),
		doc(name(strings.Repeat("a", most/2)), sign("+"), name(strings.Repeat("b", most/2-1))),
	} {
		if size := len(green.Text(n)); size != most {
			t.Errorf("%s: %d bytes", brief(n), size)
		}
		check(t, n, api.OK)
		check(t, doc(n, missing(strings.Repeat("a", most+1)), end()), api.OK)
		check(t, doc(n, sign("(")), api.ErrForm)
		check(t, doc(leaf(api.Bad, "\u20ac"), n), api.ErrForm)
		check(t, doc(n, end(blank("\t\r"))), api.ErrForm)
		check(t, doc(n, end(blank("\t\r")), n), api.ErrForm)
	}
	check(t, name(strings.Repeat("a", most+1)), api.ErrForm)
	check(t, end(blank(strings.Repeat(" ", most+1))), api.ErrForm)
	check(t, doc(name(strings.Repeat("a", most)), end(blank(" "))), api.ErrForm)
	// Any other call has no limit.
	long := doc(name(strings.Repeat("a", most)), sign("-"), name(strings.Repeat("b", most)))
	spans(t, long, nil, 0, 2*most+1, 0, 2*most+1)
	spans(t, long, []int{2}, most+1, 2*most+1, most+1, 2*most+1)
	found(t, long, 2*most, []int{2})
	if s := green.Text(long); len(s) != 2*most+1 || len(green.Tokens(long)) != 3 {
		t.Errorf("Text: %d bytes", len(s))
	}
}
