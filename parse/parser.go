package parse

import (
	"rostrum/api"
	"rostrum/lex"
)

// parser makes a tree from the left. Each of its methods that makes a part begins it with the next leaf.
type parser struct {
	rest  []api.Node // the leaves that are not taken yet; the last one is the end's
	depth int        // of the part that is made, 0 outside of any that has one
}

// leaves are the leaves of tokens, and that of the end.
func leaves(tokens []api.Token) []api.Node {
	l := make([]api.Node, 0, len(tokens)+1)
	var before []api.Node
	for _, t := range tokens {
		if lex.Ahead(t) {
			before = append(before, leaf(t, nil))
			continue
		}
		l = append(l, leaf(t, before))
		before = nil
	}
	return append(l, leaf(api.Token{}, before))
}

func leaf(t api.Token, before []api.Node) api.Node {
	return api.Node{Kind: api.Leaf, Token: t, Kids: before}
}

func node(kind uint8, kids ...api.Node) api.Node {
	return api.Node{Kind: kind, Kids: kids}
}

func missing(what string) api.Node {
	return api.Node{Kind: api.Missing, Token: api.Token{Text: what}}
}

func (p *parser) next() api.Token {
	return p.rest[0].Token
}

// isNext says whether a Word or a Sign is next. Tokens of other Kinds, and the end, have other texts, so that the text is all that counts.
func (p *parser) isNext(text string) bool {
	return p.next().Text == text
}

func (p *parser) isAtEnd() bool {
	return len(p.rest) == 1
}

func (p *parser) take() api.Node {
	taken := p.rest[0]
	p.rest = p.rest[1:]
	return taken
}

func (p *parser) require(text string) api.Node {
	if p.isNext(text) {
		return p.take()
	}
	return missing(text)
}

// deeper makes a part one level deeper than the one that contains it. Where that is too deep a token is skipped in its place, so that something is taken all the same.
func (p *parser) deeper(what string, part func() api.Node) api.Node {
	switch {
	case p.depth < api.MaxNest:
		p.depth++
		made := part()
		p.depth--
		return made
	case p.isAtEnd():
		return missing(what)
	default:
		return node(api.Skipped, p.take())
	}
}
