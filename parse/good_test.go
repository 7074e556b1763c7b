package parse_test

import (
	"testing"

	"rostrum/api"
	"rostrum/parse"
)

// P12.1: Good, of any nodes.

func token(kind uint8, text string) api.Node {
	return api.Node{Kind: api.Leaf, Token: api.Token{Kind: kind, Text: text}}
}

// wrongs are nodes that no well-formed tree has, whatever else they are.
func wrongs() []api.Node {
	bad := api.Token{Kind: api.Bad, Text: "$"}
	return []api.Node{
		{Kind: api.Missing}, missing("expr"), missing(")"), {Kind: api.Missing, Token: bad}, node(api.Missing, token(api.Name, "x")), {Kind: api.Missing, Token: api.Token{Kind: api.Name, Text: "x"}},
		{Kind: api.Skipped}, node(api.Skipped, token(api.Name, "x")), node(api.Skipped, token(api.Bad, "$")), {Kind: api.Skipped, Token: bad}, {Kind: api.Skipped, Token: api.Token{Kind: api.Name, Text: "x"}},
		{Kind: api.Leaf, Token: bad}, token(api.Bad, ""), token(api.Bad, "x"), token(api.Bad, " "), token(api.Bad, "let"), {Kind: api.Leaf, Token: bad, Kids: []api.Node{token(api.Blank, " ")}},
	}
}

// rights are nodes that are not wrong by themselves, valid and not: of all Kinds, also those that are none, with Tokens of all Kinds.
func rights() []api.Node {
	l := []api.Node{{}}
	for kind := range 256 {
		x := uint8(kind)
		if x != api.Bad {
			l = append(l, token(x, ""), token(x, "x"))
		}
		if x == api.Leaf || x == api.Missing || x == api.Skipped {
			continue
		}
		l = append(l, api.Node{Kind: x}, api.Node{Kind: x, Token: api.Token{Text: "expr"}}, api.Node{Kind: x, Token: api.Token{Kind: api.Bad, Text: "$"}}, api.Node{Kind: x, Token: api.Token{Kind: x, Text: "x"}})
	}
	return l
}

func TestGoodByItself(t *testing.T) {
	for _, n := range rights() {
		good(t, n, true)
	}
	for _, n := range wrongs() {
		good(t, n, false)
	}
}

// One wrong node anywhere: among Kids of any node, also of a Leaf, the first, the last, and in the middle.
func TestGoodOfKids(t *testing.T) {
	for _, holder := range rights() {
		for _, wrong := range wrongs() {
			for at := range 3 {
				n := holder
				n.Kids = []api.Node{token(api.Name, "x"), node(api.Round, token(api.Sign, "("), token(api.Sign, ")")), {Kind: 200}}
				good(t, n, true)
				n.Kids[at] = wrong
				good(t, n, false)
			}
			good(t, api.Node{Kind: holder.Kind, Token: holder.Token, Kids: []api.Node{wrong}}, false)
		}
	}
}

// At every depth.
func TestGoodAtDepth(t *testing.T) {
	t.Parallel()
	holders := []api.Node{{Kind: api.Doc}, {Kind: api.Leaf}, {}, {Kind: 255}, {Kind: api.Leaf, Token: api.Token{Kind: api.Blank, Text: " "}}}
	for _, depth := range []int{1, 2, 3, 10, 63, 64, 65, 66, 1000, 1<<16 - 2} {
		for i := range holders {
			for _, x := range append(wrongs(), api.Node{}, token(api.Name, "x"), token(0, "")) {
				want := modelGood(x)
				for k := range depth {
					h := holders[(i+k)%len(holders)]
					h.Kids = []api.Node{x}
					if k == depth/2 {
						h.Kids = []api.Node{token(api.Name, "a"), x, token(0, "")}
					}
					x = h
				}
				if got := parse.Good(x); got != want {
					t.Fatalf("Good, %d deep: %v, not %v", depth, got, want)
				}
			}
		}
	}
}

// Many Kids, of which one is wrong, or none.
func TestGoodOfMany(t *testing.T) {
	kids := make([]api.Node, api.MaxText)
	for i := range kids {
		kids[i] = token(api.Name, "x")
	}
	n := node(api.Doc, kids...)
	good(t, n, true)
	for _, at := range []int{0, 1, 255, 256, 40000, len(kids) - 1} {
		for _, wrong := range wrongs() {
			kids[at] = wrong
			good(t, n, false)
		}
		kids[at] = token(api.Bad-1, "x")
		good(t, n, true)
	}
}

// Of the trees that Parse makes: those of well-formed documents, and what is left of them when one of their nodes is changed.
func TestGoodOfTrees(t *testing.T) {
	for _, x := range []struct {
		text string
		want bool
	}{
		{"", true}, {" (* a *) ", true}, {"let x = 1", true}, {"let rec f a (b, _) [c; 1] () [] = (* a *) if a then f b else match c with | [] -> 1.5 | h :: t -> - \"a\" ^ (fun x -> x) y", true},
		{"let x = let y = 1 in (y, [y; true])", true}, {"x", false}, {"let x = 1 )", false}, {"let x =", false}, {"let = 1", false}, {"let x 1", false}, {"let x = $", false}, {"let $ = 1", false},
		{"let x = (", false}, {"let x = [1, 2]", false}, {"let x = 1.0e24", false}, {"let x = \"a", false}, {"(* a", false}, {"let x = 1 (* a", false}, {"let x = 1\nlet", false}, {"$ let x = 1", false},
	} {
		n := parsed(t, x.text)
		good(t, n, x.want)
		good(t, bare(n), x.want)
		if x.want {
			eachNode(&n, func(at *api.Node) {
				was := *at
				for _, wrong := range wrongs() {
					*at = wrong
					good(t, n, false)
					*at = was
					at.Kids = append(at.Kids[:len(at.Kids):len(at.Kids)], wrong)
					good(t, n, false)
					*at = was
				}
			})
		}
	}
}

// eachNode visits each node of a tree.
func eachNode(n *api.Node, visit func(at *api.Node)) {
	visit(n)
	for i := range n.Kids {
		eachNode(&n.Kids[i], visit)
	}
}
