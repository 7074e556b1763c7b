package parse

import "rostrum/api"

// What is missing, where it is no Word or Sign.
const (
	anExpression = "expr"
	aPattern     = "pattern"
)

func (p *parser) expression() api.Node {
	return p.deeper(anExpression, p.form())
}

// form is how the next expression is made.
func (p *parser) form() func() api.Node {
	switch p.next().Text {
	case "let":
		return p.letIn
	case "fun":
		return p.lambda
	case "if":
		return p.choice
	case "match":
		return p.match
	default:
		return func() api.Node { return p.operators(0) }
	}
}

func (p *parser) letIn() api.Node {
	return node(api.LetIn, append(p.binding(), p.require("in"), p.expression())...)
}

func (p *parser) lambda() api.Node {
	kids := p.parameters([]api.Node{p.take(), p.atom(p.patterns())})
	return node(api.Lambda, append(kids, p.require("->"), p.expression())...)
}

func (p *parser) choice() api.Node {
	return node(api.If, p.take(), p.expression(), p.require("then"), p.expression(), p.require("else"), p.expression())
}

func (p *parser) match() api.Node {
	kids := []api.Node{p.take(), p.expression(), p.require("with")}
	if p.isNext("|") {
		kids = append(kids, p.take())
	}
	kids = append(kids, p.arm())
	for p.isNext("|") {
		kids = append(kids, p.take(), p.arm())
	}
	return node(api.Match, kids...)
}

func (p *parser) arm() api.Node {
	return node(api.Arm, p.pattern(), p.require("->"), p.expression())
}

func (p *parser) pattern() api.Node {
	return p.deeper(aPattern, func() api.Node {
		head := p.atom(p.patterns())
		if !p.isNext("::") {
			return head
		}
		return node(api.PCons, head, p.take(), p.pattern())
	})
}
