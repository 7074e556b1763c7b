package parse_test

import (
	"math/rand/v2"

	"rostrum/api"
	"rostrum/green"
)

// Drawn documents that are well-formed, with their trees: made by the grammar (S2), from the tree to the text, and so without Parse.

// maker draws parts of a tree; the fewer parts are left, the smaller they are.
type maker struct {
	*rand.Rand
	left int
}

func (m *maker) name() api.Node {
	return leafOf(oneOf(m.Rand, []string{"a", "b", "x'", "_y", "f1", "lets", "e5", "recs", "mody"}))
}

func (m *maker) document() api.Node {
	n := node(api.Doc)
	for range m.IntN(4) {
		n.Kids = append(n.Kids, node(api.Decl, m.binding(0)...))
	}
	n.Kids = append(n.Kids, leafOf(""))
	return n
}

// binding: the depth is that of what contains it.
func (m *maker) binding(depth int) []api.Node {
	kids := []api.Node{leafOf("let")}
	if m.IntN(3) == 0 {
		kids = append(kids, leafOf("rec"))
	}
	if m.IntN(3) == 0 {
		kids = append(kids, m.patom(depth))
	} else {
		kids = append(kids, m.name())
		for range m.IntN(3) {
			kids = append(kids, m.patom(depth))
		}
	}
	return append(kids, leafOf("="), m.expr(depth+1, false))
}

// expr: closed: it may not end with a match, as a | follows it.
func (m *maker) expr(depth int, closed bool) api.Node {
	m.left--
	if m.left < 0 || depth >= api.MaxNest {
		return m.leaf()
	}
	switch m.IntN(12) {
	case 0:
		return node(api.LetIn, append(m.binding(depth), leafOf("in"), m.expr(depth+1, closed))...)
	case 1:
		n := node(api.Lambda, leafOf("fun"), m.patom(depth))
		for range m.IntN(3) {
			n.Kids = append(n.Kids, m.patom(depth))
		}
		n.Kids = append(n.Kids, leafOf("->"), m.expr(depth+1, closed))
		return n
	case 2:
		return node(api.If, leafOf("if"), m.expr(depth+1, false), leafOf("then"), m.expr(depth+1, false), leafOf("else"), m.expr(depth+1, closed))
	case 3:
		if !closed {
			return m.match(depth)
		}
	}
	return m.level(m.IntN(8), depth)
}

func (m *maker) match(depth int) api.Node {
	n := node(api.Match, leafOf("match"), m.expr(depth+1, false), leafOf("with"))
	if m.IntN(2) == 0 {
		n.Kids = append(n.Kids, leafOf("|"))
	}
	arms := 1 + m.IntN(3)
	for i := range arms {
		n.Kids = append(n.Kids, node(api.Arm, m.pat(depth+1), leafOf("->"), m.expr(depth+1, i < arms-1)))
		if i < arms-1 {
			n.Kids = append(n.Kids, leafOf("|"))
		}
	}
	return n
}

// level: an expression of operators of a level, or of tighter ones.
func (m *maker) level(at, depth int) api.Node {
	l := levels()
	if at == len(l) {
		return m.operand(depth)
	}
	m.left--
	if m.left < 0 || m.IntN(2) == 0 {
		return m.level(at+1, depth)
	}
	operator := leafOf(oneOf(m.Rand, l[at].operators))
	if l[at].right {
		return node(api.Binary, m.level(at+1, depth), operator, m.level(at, depth))
	}
	return node(api.Binary, m.level(at, depth), operator, m.level(at+1, depth))
}

func (m *maker) operand(depth int) api.Node {
	m.left--
	switch {
	case m.left < 0:
		return m.leaf()
	case m.IntN(6) == 0 && depth < api.MaxNest:
		return node(api.Unary, leafOf(oneOf(m.Rand, []string{"-", "-."})), m.operand(depth+1))
	}
	n := m.atom(depth)
	for m.left > 0 && m.IntN(3) == 0 {
		n = node(api.Apply, n, m.atom(depth))
	}
	return n
}

func (m *maker) leaf() api.Node {
	if m.IntN(2) == 0 {
		return m.name()
	}
	return leafOf(oneOf(m.Rand, []string{"0", "12", "1.5", "1.", "2.5e-3", "\"\"", "\"a b\\n(*\"", "true", "false"}))
}

func (m *maker) atom(depth int) api.Node {
	m.left--
	if m.left < 0 || depth >= api.MaxNest {
		return m.leaf()
	}
	inner := func() api.Node { return m.expr(depth+1, false) }
	switch m.IntN(5) {
	case 0:
		return m.bracketed(api.Round, "(", ",", ")", inner)
	case 1:
		return m.bracketed(api.List, "[", ";", "]", inner)
	}
	return m.leaf()
}

func (m *maker) bracketed(kind uint8, open, comma, shut string, inner func() api.Node) api.Node {
	n := node(kind, leafOf(open))
	for i := range m.IntN(4) {
		if i > 0 {
			n.Kids = append(n.Kids, leafOf(comma))
		}
		n.Kids = append(n.Kids, inner())
	}
	n.Kids = append(n.Kids, leafOf(shut))
	return n
}

func (m *maker) pat(depth int) api.Node {
	m.left--
	if m.left > 0 && depth < api.MaxNest && m.IntN(3) == 0 {
		return node(api.PCons, m.patom(depth), leafOf("::"), m.pat(depth+1))
	}
	return m.patom(depth)
}

func (m *maker) patom(depth int) api.Node {
	m.left--
	inner := func() api.Node { return m.pat(depth + 1) }
	choice := m.IntN(10)
	switch {
	case m.left < 0 || depth >= api.MaxNest || choice > 3:
		return m.name()
	case choice == 0:
		return m.bracketed(api.PRound, "(", ",", ")", inner)
	case choice == 1:
		return m.bracketed(api.PList, "[", ";", "]", inner)
	}
	return leafOf(oneOf(m.Rand, []string{"_", "0", "12", "\"\"", "\"a\"", "true", "false"}))
}

// spaces are blanks and remarks that may stand in a row.
func spaces() [][]string {
	return [][]string{{}, {}, {" "}, {" "}, {"\n"}, {"\t"}, {"\r\n  "}, {"(* a *)"}, {" ", "(**)"}, {"(* let x = *)", "\n"}, {" ", "(* (* \" *) *)", "\n\n", "(*\n*)", " "}, {"(**)", "(* b *)"}}
}

// dressed is a tree with drawn blanks and remarks before its leaves.
func dressed(r *rand.Rand, n api.Node) api.Node {
	n = bare(n)
	var l []*api.Node
	eachNode(&n, func(at *api.Node) {
		if at.Kind == api.Leaf {
			l = append(l, at)
		}
	})
	for i, x := range l {
		for _, s := range oneOf(r, spaces()) {
			x.Kids = append(x.Kids, leafOf(s))
		}
		// Where they would grow together.
		if green.Check(api.Node{Kind: api.Doc, Kids: copied(l[max(0, i-3) : i+1])}) != api.OK {
			x.Kids = []api.Node{token(api.Blank, " ")}
		}
	}
	return n
}

// copied: leaves as they are by now.
func copied(l []*api.Node) []api.Node {
	var row []api.Node
	for _, x := range l {
		row = append(row, *x)
	}
	return row
}
