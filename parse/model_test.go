package parse_test

import (
	"slices"
	"testing"

	"rostrum/api"
	"rostrum/green"
	"rostrum/lex"
	"rostrum/parse"
)

// The model: a machine with a stack of what is still to be done. It transcribes the chapter's table without recursion; a depth is handed from goal to goal, and operators are grouped when all of an expression are known.

// goal is done at once, or is replaced by others.
type goal func(m *machine) []goal

// machine has the leaves that are not taken yet, what is still to be done, the last one first, and the Kids of each node that is open.
type machine struct {
	leaves []api.Node
	goals  []goal
	open   [][]api.Node
}

// modelTree is the tree of a text that lex.Tokens allows.
func modelTree(t *testing.T, text string) api.Node {
	t.Helper()
	l, e := lex.Tokens(text)
	if e != api.OK {
		t.Fatalf("Tokens(%q): %v", brief(text), e)
	}
	m := machine{leaves: modelLeaves(l), open: [][]api.Node{nil}}
	m.push(in(api.Doc, document))
	for len(m.goals) > 0 {
		last := len(m.goals) - 1
		g := m.goals[last]
		m.goals = m.goals[:last]
		m.push(g(&m))
	}
	if len(m.leaves) > 0 || len(m.open) != 1 || len(m.open[0]) != 1 {
		t.Fatalf("the model of %q: %d leaves are left, %d are open", brief(text), len(m.leaves), len(m.open))
	}
	return m.open[0][0]
}

// modelLeaves: each token that is neither Blank nor Remark, and the end, with those before it, found by going back from it.
func modelLeaves(tokens []api.Token) []api.Node {
	l := append(slices.Clone(tokens), api.Token{})
	var row []api.Node
	for i, x := range l {
		if x.Kind == api.Blank || x.Kind == api.Remark {
			continue
		}
		n := api.Node{Kind: api.Leaf, Token: x}
		for back := i - 1; back >= 0 && (l[back].Kind == api.Blank || l[back].Kind == api.Remark); back-- {
			n.Kids = append(n.Kids, api.Node{Kind: api.Leaf, Token: l[back]})
		}
		slices.Reverse(n.Kids)
		row = append(row, n)
	}
	return row
}

func (m *machine) push(l []goal) {
	for _, g := range slices.Backward(l) {
		m.goals = append(m.goals, g)
	}
}

func (m *machine) put(n api.Node) {
	top := &m.open[len(m.open)-1]
	*top = append(*top, n)
}

func (m *machine) token() api.Token { return m.leaves[0].Token }

func (m *machine) atEnd() bool { return m.token() == api.Token{} }

// is: a Word or Sign is next.
func (m *machine) is(l ...string) bool {
	x := m.token()
	return (x.Kind == api.Word || x.Kind == api.Sign) && slices.Contains(l, x.Text)
}

func (m *machine) isKind(l ...uint8) bool { return slices.Contains(l, m.token().Kind) }

func take(m *machine) []goal {
	m.put(m.leaves[0])
	m.leaves = m.leaves[1:]
	return nil
}

func miss(what string) goal {
	return func(m *machine) []goal {
		m.put(api.Node{Kind: api.Missing, Token: api.Token{Text: what}})
		return nil
	}
}

// need requires a Word or Sign.
func need(text string) goal {
	return func(m *machine) []goal {
		if m.is(text) {
			return []goal{take}
		}
		return []goal{miss(text)}
	}
}

// maybe takes a Word or Sign if it is next.
func maybe(text string) goal {
	return func(m *machine) []goal {
		if m.is(text) {
			return []goal{take}
		}
		return nil
	}
}

// while does something as long as it may.
func while(may func(m *machine) bool, l ...goal) goal {
	return func(m *machine) []goal {
		if !may(m) {
			return nil
		}
		return append(slices.Clone(l), while(may, l...))
	}
}

// in is a node, and what is made in it.
func in(kind uint8, l ...goal) []goal {
	return slices.Concat([]goal{begin}, l, []goal{finish(func(kids []api.Node) api.Node { return api.Node{Kind: kind, Kids: kids} })})
}

func begin(m *machine) []goal {
	m.open = append(m.open, nil)
	return nil
}

// finish makes one node of what was made since begin.
func finish(of func(kids []api.Node) api.Node) goal {
	return func(m *machine) []goal {
		last := len(m.open) - 1
		kids := m.open[last]
		m.open = m.open[:last]
		m.put(of(kids))
		return nil
	}
}

// applied makes one node of the last two.
func applied(m *machine) []goal {
	top := &m.open[len(m.open)-1]
	two := slices.Clone((*top)[len(*top)-2:])
	*top = append((*top)[:len(*top)-2], api.Node{Kind: api.Apply, Kids: two})
	return nil
}

func document(m *machine) []goal {
	switch {
	case m.atEnd():
		return []goal{take}
	case m.is("let"):
		return append(in(api.Decl, binding(0)...), document)
	}
	more := while(func(m *machine) bool { return !m.atEnd() && !m.is("let") }, take)
	return append(in(api.Skipped, take, more), document)
}

// binding, from let on; the depth is that of what contains it.
func binding(depth int) []goal {
	bound := func(m *machine) []goal {
		if m.isKind(api.Name) {
			return []goal{take, while(beginsPatom, patom(depth))}
		}
		return []goal{patom(depth)}
	}
	return []goal{take, maybe("rec"), bound, need("="), expr(depth + 1)}
}

// limited is what has a depth.
func limited(depth int, what string, g goal) goal {
	return func(m *machine) []goal {
		switch {
		case depth <= 64:
			return g(m)
		case m.atEnd():
			return []goal{miss(what)}
		}
		return in(api.Skipped, take)
	}
}

func expr(depth int) goal {
	inner := func(m *machine) []goal { return []goal{expr(depth + 1)} }
	return limited(depth, "expr", func(m *machine) []goal {
		switch {
		case m.is("let"):
			return in(api.LetIn, append(binding(depth), need("in"), inner)...)
		case m.is("fun"):
			return in(api.Lambda, take, patom(depth), while(beginsPatom, patom(depth)), need("->"), inner)
		case m.is("if"):
			return in(api.If, take, inner, need("then"), inner, need("else"), inner)
		case m.is("match"):
			arm := func(m *machine) []goal { return in(api.Arm, pat(depth+1), need("->"), inner) }
			return in(api.Match, take, inner, need("with"), maybe("|"), arm, while(func(m *machine) bool { return m.is("|") }, take, arm))
		}
		isOperator := func(m *machine) bool { return m.isKind(api.Word, api.Sign) && levelOf(m.token().Text) > 0 }
		return []goal{begin, operand(depth), while(isOperator, take, operand(depth)), finish(grouped)}
	})
}

func operand(depth int) goal {
	return func(m *machine) []goal {
		if m.is("-", "-.") {
			return in(api.Unary, take, limited(depth+1, "expr", operand(depth+1)))
		}
		return []goal{atom(depth), while(beginsAtom, atom(depth), applied)}
	}
}

func beginsAtom(m *machine) bool {
	return m.isKind(api.Name, api.Int, api.Float, api.Text, api.Bad) || m.is("true", "false", "(", "[")
}

func beginsPatom(m *machine) bool {
	return m.isKind(api.Name, api.Int, api.Text, api.Bad) || m.is("true", "false", "_", "(", "[")
}

func atom(depth int) goal {
	return anAtom(beginsAtom, "expr", api.Round, api.List, expr(depth+1))
}

func patom(depth int) goal {
	return anAtom(beginsPatom, "pattern", api.PRound, api.PList, pat(depth+1))
}

func anAtom(begins func(m *machine) bool, what string, round, list uint8, inner goal) goal {
	return func(m *machine) []goal {
		switch {
		case m.is("("):
			return in(round, take, rest(inner, ",", ")"))
		case m.is("["):
			return in(list, take, rest(inner, ";", "]"))
		case m.isKind(api.Bad):
			return in(api.Skipped, take)
		case begins(m):
			return []goal{take}
		}
		return []goal{miss(what)}
	}
}

// rest is what follows a bracket that is open.
func rest(inner goal, comma, shut string) goal {
	return func(m *machine) []goal {
		if m.is(shut) {
			return []goal{take}
		}
		return []goal{inner, while(func(m *machine) bool { return m.is(comma) }, take, inner), need(shut)}
	}
}

func pat(depth int) goal {
	return limited(depth, "pattern", func(m *machine) []goal {
		tail := func(m *machine) []goal {
			if m.is("::") {
				return []goal{take, pat(depth + 1), finish(func(kids []api.Node) api.Node { return api.Node{Kind: api.PCons, Kids: kids} })}
			}
			return []goal{finish(func(kids []api.Node) api.Node { return kids[0] })}
		}
		return []goal{begin, patom(depth), tail}
	})
}

// levelOf is an operator's level, from the loosest on, 0 if it is none.
func levelOf(operator string) int {
	switch operator {
	case "||":
		return 1
	case "&&":
		return 2
	case "=", "<>", "<", "<=", ">", ">=":
		return 3
	case "@", "^":
		return 4
	case "::":
		return 5
	case "+", "-", "+.", "-.":
		return 6
	case "*", "/", "*.", "/.", "mod":
		return 7
	}
	return 0
}

// grouped: operands, and operators between them, as one node: cut at all of the loosest ones, which are then put together from the one side or from the other.
func grouped(row []api.Node) api.Node {
	if len(row) == 1 {
		return row[0]
	}
	loosest := 8
	for i := 1; i < len(row); i += 2 {
		loosest = min(loosest, levelOf(row[i].Token.Text))
	}
	var parts, operators []api.Node
	from := 0
	for i := 1; i < len(row); i += 2 {
		if levelOf(row[i].Token.Text) == loosest {
			parts, operators = append(parts, grouped(row[from:i])), append(operators, row[i])
			from = i + 1
		}
	}
	parts = append(parts, grouped(row[from:]))
	if slices.Contains([]int{1, 2, 4, 5}, loosest) {
		made := parts[len(operators)]
		for i, x := range slices.Backward(operators) {
			made = api.Node{Kind: api.Binary, Kids: []api.Node{parts[i], x, made}}
		}
		return made
	}
	made := parts[0]
	for i, x := range operators {
		made = api.Node{Kind: api.Binary, Kids: []api.Node{made, x, parts[i+1]}}
	}
	return made
}

// modelGood: one node after another, in any order.
func modelGood(n api.Node) bool {
	for l := []api.Node{n}; len(l) > 0; {
		last := l[len(l)-1]
		l = append(l[:len(l)-1], last.Kids...)
		if last.Kind == api.Missing || last.Kind == api.Skipped || last.Kind == api.Leaf && last.Token.Kind == api.Bad {
			return false
		}
	}
	return true
}

// agrees holds Parse and Good against the model: P12.1.
func agrees(t *testing.T, text string) api.Node {
	t.Helper()
	n, e := parse.Parse(text)
	if e != api.OK || n.Kind != api.Doc {
		t.Fatalf("Parse(%q): Kind %d, %v", brief(text), n.Kind, e)
	}
	if want := modelTree(t, text); !green.Same(n, want) {
		t.Fatalf("Parse(%q):\n%s, not\n%s", brief(text), brief(told(n)), brief(told(want)))
	}
	good(t, n, modelGood(n))
	return n
}

// good holds Good against what is wanted of a tree.
func good(t *testing.T, n api.Node, want bool) {
	t.Helper()
	if got := parse.Good(n); got != want {
		t.Fatalf("Good(%s): %v, not %v", brief(told(n)), got, want)
	}
}

// holds holds everything that is promised of a text by itself: P12.1, P12.2.
func holds(t *testing.T, text string) api.Node {
	t.Helper()
	n := agrees(t, text)
	if got := green.Text(n); got != text {
		t.Fatalf("Parse(%q): the tree's text is %q", brief(text), brief(got))
	}
	if e := green.Check(n); e != api.OK {
		t.Fatalf("Parse(%q): %s: %v", brief(text), brief(told(n)), e)
	}
	return n
}
