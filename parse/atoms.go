package parse

import "rostrum/api"

// atoms are those of expressions or those of patterns: what they differ in, as they are written alike.
type atoms struct {
	what        string // is missing where none can begin
	isLeaf      func(t api.Token) bool
	round, list uint8
	inner       func() api.Node // makes what stands in brackets
}

func (p *parser) expressions() atoms {
	return atoms{what: anExpression, isLeaf: isExpression, round: api.Round, list: api.List, inner: p.expression}
}

func (p *parser) patterns() atoms {
	return atoms{what: aPattern, isLeaf: isPattern, round: api.PRound, list: api.PList, inner: p.pattern}
}

func (a atoms) canBegin(t api.Token) bool {
	return a.isLeaf(t) || t.Text == "(" || t.Text == "[" || t.Kind == api.Bad
}

func (p *parser) atom(a atoms) api.Node {
	switch t := p.next(); {
	case a.isLeaf(t):
		return p.take()
	case t.Text == "(":
		return p.bracketed(a.round, a.inner, ",", ")")
	case t.Text == "[":
		return p.bracketed(a.list, a.inner, ";", "]")
	case t.Kind == api.Bad:
		return node(api.Skipped, p.take())
	default:
		return missing(a.what)
	}
}

func (p *parser) bracketed(kind uint8, inner func() api.Node, separator, closing string) api.Node {
	kids := []api.Node{p.take()}
	if p.isNext(closing) {
		return node(kind, append(kids, p.take())...)
	}
	kids = append(kids, inner())
	for p.isNext(separator) {
		kids = append(kids, p.take(), inner())
	}
	return node(kind, append(kids, p.require(closing))...)
}

// isExpression says whether a token is an expression by itself.
func isExpression(t api.Token) bool {
	return t.Kind == api.Float || isInBoth(t)
}

// isPattern says whether a token is a pattern by itself.
func isPattern(t api.Token) bool {
	return t.Text == "_" || isInBoth(t)
}

// isInBoth says whether a token is an expression by itself, and a pattern.
func isInBoth(t api.Token) bool {
	switch t.Kind {
	case api.Name, api.Int, api.Text:
		return true
	default:
		return t.Text == "true" || t.Text == "false"
	}
}
