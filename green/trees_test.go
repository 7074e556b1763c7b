package green_test

import (
	"math/rand/v2"
	"slices"
	"strings"
	"testing"

	"rostrum/api"
	"rostrum/green"
	"rostrum/lex"
)

// Trees by hand, trees of texts, and drawn ones.

// leaf is a Leaf with nodes ahead of its token.
func leaf(kind uint8, text string, kids ...api.Node) api.Node {
	return api.Node{Kind: api.Leaf, Token: api.Token{Kind: kind, Text: text}, Kids: kids}
}

func name(text string, kids ...api.Node) api.Node { return leaf(api.Name, text, kids...) }
func sign(text string, kids ...api.Node) api.Node { return leaf(api.Sign, text, kids...) }
func blank(text string) api.Node                  { return leaf(api.Blank, text) }
func remark(text string) api.Node                 { return leaf(api.Remark, text) }

// end is the empty Leaf.
func end(kids ...api.Node) api.Node { return leaf(0, "", kids...) }

// missing is a Missing of something.
func missing(text string, kids ...api.Node) api.Node {
	return api.Node{Kind: api.Missing, Token: api.Token{Text: text}, Kids: kids}
}

// node is one of the Kinds 3 to 18, or of none.
func node(kind uint8, kids ...api.Node) api.Node { return api.Node{Kind: kind, Kids: kids} }

func doc(kids ...api.Node) api.Node { return node(api.Doc, kids...) }

// documents are texts of all kinds of tokens, well-formed and not.
func documents() []string {
	return []string{
		"", " ", "\n\n", "(* a *)", " (* a *)\n(* b *) ", "x", " x", "x ", "(* a *)x(* b *)",
		"let x = 1", "let x = (1", "let x = 1\n", "\nlet x=1(* one *)\nlet y = 2.5 (* two *) \n",
		"let rec m f l = match l with [] -> [] | h :: t -> f h :: m f t",
		"let f (a, _) [b; c] = if a then b +. 1. else -. c *. 0.5e-3 (* (* *) *)\n\n",
		"let s = \"a\\n\" ^ \"\u20ac\" in fun x -> x @ [s; s] && true || false",
		"let x = \"a\nlet y = \"\\q\" # \u00e9 \U0001d11e 1.0e24 (* never ends",
		") ] , ; let let = = in -> 1.e",
		"let a = 1 let b = a mod 2 <> 3 let c' = (a, b) let () = ()",
		strings.Repeat("let x = f (x, 1.5) (* a *)\n", 12),
	}
}

// leavesOf: tokens as Leaves, each one with the blanks and remarks ahead of it; the empty Leaf is the last one.
func leavesOf(l []api.Token) []api.Node {
	var row, before []api.Node
	for _, x := range l {
		if ahead(x) {
			before = append(before, leaf(x.Kind, x.Text))
			continue
		}
		row, before = append(row, leaf(x.Kind, x.Text, before...)), nil
	}
	return append(row, end(before...))
}

// treeOf: a valid tree of a text, its nodes drawn.
func treeOf(t *testing.T, r *rand.Rand, text string) api.Node {
	t.Helper()
	l, e := lex.Tokens(text)
	if e != api.OK {
		t.Fatalf("Tokens(%q): %v", text, e)
	}
	row := scattered(r, leavesOf(l))
	for range r.IntN(8) {
		row = grouped(r, row)
	}
	return doc(row...)
}

// scattered: nodes without bytes put in between, and blanks and remarks moved to empty Leaves of their own.
func scattered(r *rand.Rand, l []api.Node) []api.Node {
	var row []api.Node
	for _, x := range l {
		for r.IntN(6) == 0 {
			row = append(row, []api.Node{end(), missing(")"), missing(""), node(api.Skipped), node(api.Round)}[r.IntN(5)])
		}
		if r.IntN(4) == 0 {
			cut := r.IntN(len(x.Kids) + 1)
			row = append(row, end(x.Kids[:cut:cut]...))
			x.Kids = x.Kids[cut:]
		}
		row = append(row, x)
	}
	return row
}

// grouped: some of the nodes side by side made Kids of one.
func grouped(r *rand.Rand, l []api.Node) []api.Node {
	var row []api.Node
	for len(l) > 0 {
		n := 1 + r.IntN(min(len(l), 4))
		if r.IntN(2) == 0 {
			row = append(row, node(uint8(3+r.IntN(16)), l[:n:n]...))
		} else {
			row = append(row, l[:n]...)
		}
		l = l[n:]
	}
	return row
}

// anyTree: a drawn tree, of nodes of all Kinds, with tokens of all kinds; mostly not valid.
func anyTree(r *rand.Rand, depth int) api.Node {
	n := api.Node{Kind: []uint8{api.Leaf, api.Leaf, api.Leaf, api.Missing, api.Doc, api.Round, uint8(r.IntN(21)), uint8(r.IntN(256))}[r.IntN(8)]}
	if n.Kind == api.Leaf || r.IntN(4) == 0 {
		n.Token = anyToken(r)
	}
	if depth == 0 {
		return n
	}
	for range r.IntN(4) {
		n.Kids = append(n.Kids, anyTree(r, r.IntN(depth)))
	}
	return n
}

// anyToken: one that is a token by itself, mostly.
func anyToken(r *rand.Rand) api.Token {
	l := []api.Token{
		{}, {}, {Kind: api.Blank, Text: " "}, {Kind: api.Blank, Text: "\n "}, {Kind: api.Remark, Text: "(**)"}, {Kind: api.Word, Text: "let"}, {Kind: api.Name, Text: "x"}, {Kind: api.Int, Text: "12"},
		{Kind: api.Float, Text: "1."}, {Kind: api.Text, Text: "\"a\""}, {Kind: api.Sign, Text: "-"}, {Kind: api.Sign, Text: ">"}, {Kind: api.Sign, Text: "("}, {Kind: api.Sign, Text: "*"}, {Kind: api.Bad, Text: "\u20ac"}, {Kind: api.Bad, Text: "\"a"},
		{Kind: api.Name}, {Kind: api.Blank}, {Text: "x"}, {Text: " "}, {Kind: api.Bad, Text: "\xff"}, {Kind: 200, Text: "z"}, {Kind: api.Name, Text: "a b"}, {Kind: api.Blank, Text: "a"}, {Kind: api.Name, Text: " "},
	}
	return l[r.IntN(len(l))]
}

// source makes the same numbers in every run.
func source() *rand.Rand { return rand.New(rand.NewPCG(11, 2026)) }

// changed: a tree with one thing in it changed, drawn, mostly so that it is not valid any more.
func changed(r *rand.Rand, n api.Node) api.Node {
	spots := modelOf(n).spots
	s := spots[r.IntN(len(spots))]
	x := s.node
	switch r.IntN(9) {
	case 0:
		x.Kind = uint8(r.IntN(21))
	case 1:
		x.Kind = uint8(r.IntN(256))
	case 2:
		x.Token = anyToken(r)
	case 3:
		x.Token.Kind = uint8(r.IntN(11))
	case 4:
		x.Token.Text += []string{" ", "x", "\xff", "\""}[r.IntN(4)]
	case 5:
		x.Kids = nil
	case 6:
		x.Kids = slices.Concat(x.Kids, []api.Node{anyTree(r, 1)})
	case 7:
		x.Kids = slices.Concat([]api.Node{anyTree(r, 0)}, x.Kids)
	case 8:
		x = anyTree(r, 2)
	}
	return modelPut(n, s.path, x)
}

// check holds Check against what is wanted of a tree.
func check(t *testing.T, n api.Node, want api.Errno) {
	t.Helper()
	if got := green.Check(n); got != want {
		t.Errorf("Check(%s): %v, not %v", brief(n), got, want)
	}
}
