package parse

import (
	"slices"

	"rostrum/api"
)

// level are operators that bind equally tightly.
type level struct {
	operators        []string
	rightAssociative bool
}

// levels stand from the loosest on.
var levels = [...]level{
	{[]string{"||"}, true},
	{[]string{"&&"}, true},
	{[]string{"=", "<>", "<", "<=", ">", ">="}, false},
	{[]string{"@", "^"}, true},
	{[]string{"::"}, true},
	{[]string{"+", "-", "+.", "-."}, false},
	{[]string{"*", "/", "*.", "/.", "mod"}, false},
}

// operators makes operands and the operators between them, of a level and of all tighter ones.
func (p *parser) operators(at int) api.Node {
	if at == len(levels) {
		return p.operand()
	}
	right := at + 1
	if levels[at].rightAssociative {
		right = at
	}
	made := p.operators(at + 1)
	for slices.Contains(levels[at].operators, p.next().Text) {
		made = node(api.Binary, made, p.take(), p.operators(right))
	}
	return made
}

// operand is what stands between operators of the tightest level.
func (p *parser) operand() api.Node {
	if p.isNext("-") || p.isNext("-.") {
		return node(api.Unary, p.take(), p.deeper(anExpression, p.operand))
	}
	return p.application()
}

func (p *parser) application() api.Node {
	expressions := p.expressions()
	made := p.atom(expressions)
	for expressions.canBegin(p.next()) {
		made = node(api.Apply, made, p.atom(expressions))
	}
	return made
}
