package parse

import "rostrum/api"

func (p *parser) document() api.Node {
	var kids []api.Node
	for !p.isAtEnd() {
		if p.isNext("let") {
			kids = append(kids, p.declaration())
		} else {
			kids = append(kids, p.skipped())
		}
	}
	return node(api.Doc, append(kids, p.take())...)
}

// skipped takes what can't stand between declarations.
func (p *parser) skipped() api.Node {
	kids := []api.Node{p.take()}
	for !p.isAtEnd() && !p.isNext("let") {
		kids = append(kids, p.take())
	}
	return node(api.Skipped, kids...)
}

func (p *parser) declaration() api.Node {
	return node(api.Decl, p.binding()...)
}

// binding is let, rec, and what is bound to what: Kids of the node that contains it.
func (p *parser) binding() []api.Node {
	kids := []api.Node{p.take()}
	if p.isNext("rec") {
		kids = append(kids, p.take())
	}
	named := p.next().Kind == api.Name
	kids = append(kids, p.atom(p.patterns()))
	if named {
		kids = p.parameters(kids)
	}
	return append(kids, p.require("="), p.expression())
}

// parameters appends pattern atoms, as long as one can begin.
func (p *parser) parameters(kids []api.Node) []api.Node {
	patterns := p.patterns()
	for patterns.canBegin(p.next()) {
		kids = append(kids, p.atom(patterns))
	}
	return kids
}
