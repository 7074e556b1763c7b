package green

import (
	"slices"
	"strings"

	"rostrum/api"
	"rostrum/lex"
)

// reach is the node of a path, nil if there is none.
func reach(n *api.Node, path []int) *api.Node {
	for _, i := range path {
		if i < 0 || i >= len(n.Kids) {
			return nil
		}
		n = &n.Kids[i]
	}
	return n
}

// shown is what the tree's text has of the node of a path, and how many bytes of the text stand ahead of it. Of what is within a Missing the text has nothing, as little as of the Missing itself.
func shown(n api.Node, path []int) (part api.Node, ahead int) {
	for _, i := range path {
		if n.Kind == api.Missing {
			break
		}
		// One walk for all Kids before it, as if they were a node's: one for each would take long where there are many.
		ahead += size(api.Node{Kids: n.Kids[:i]})
		n = n.Kids[i]
	}
	return n, ahead
}

// copied is a node in memory of its own.
func copied(n api.Node) api.Node {
	c := api.Node{Kind: n.Kind, Token: copiedToken(n.Token)}
	if len(n.Kids) > 0 {
		c.Kids = make([]api.Node, len(n.Kids))
	}
	for i, kid := range n.Kids {
		c.Kids[i] = copied(kid)
	}
	return c
}

// copiedToken is a token with a text of its own: the given one may be part of a far longer one, which it would keep in memory.
func copiedToken(t api.Token) api.Token {
	return api.Token{Kind: t.Kind, Text: strings.Clone(t.Text)}
}

// formed says whether a node and everything in it has what its Kind may have; what the tokens' texts are is not looked at.
func formed(n api.Node) bool {
	switch {
	case n.Kind == api.Leaf:
		return !lex.Ahead(n.Token) && !slices.ContainsFunc(n.Kids, isNotAhead)
	case n.Kind == api.Missing:
		return n.Token.Kind == 0 && len(n.Kids) == 0
	case n.Kind >= api.Skipped && n.Kind <= api.PList:
		return isEmpty(n.Token) && !slices.ContainsFunc(n.Kids, isNotFormed)
	default:
		return false
	}
}

func isNotFormed(n api.Node) bool { return !formed(n) }

// isNotAhead says whether a node may not stand among a Leaf's Kids.
func isNotAhead(n api.Node) bool {
	return n.Kind != api.Leaf || len(n.Kids) > 0 || !lex.Ahead(n.Token)
}
