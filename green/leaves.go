package green

import (
	"iter"

	"rostrum/api"
	"rostrum/lex"
)

// leaves visits each Leaf of a tree's text, with its path, in the order in which their tokens stand there: a Leaf after the Leaves among its Kids, and none within a Missing. A path holds only until the next one.
func leaves(n api.Node) iter.Seq2[[]int, api.Node] {
	return func(yield func([]int, api.Node) bool) {
		w := walk{yield: yield}
		w.visit(n)
	}
}

// walk is a way through a tree. It has one path that grows and shrinks, as a path of its own for each node would take long in a deep tree.
type walk struct {
	path  []int
	yield func(path []int, leaf api.Node) bool
}

// visit goes through the node at the end of the path; false: it was stopped there.
func (w *walk) visit(n api.Node) bool {
	if n.Kind == api.Missing {
		return true
	}
	depth := len(w.path)
	w.path = append(w.path, 0)
	for i, kid := range n.Kids {
		w.path[depth] = i
		if !w.visit(kid) {
			return false
		}
	}
	w.path = w.path[:depth]
	return n.Kind != api.Leaf || w.yield(w.path, n)
}

// outermost is how many steps of the path to a Leaf lead to the outermost Leaf around it, which may be itself.
func outermost(n api.Node, path []int) int {
	for steps, i := range path {
		if n.Kind == api.Leaf {
			return steps
		}
		n = n.Kids[i]
	}
	return len(path)
}

// size is how many bytes a node's text has.
func size(n api.Node) int {
	bytes := 0
	for _, leaf := range leaves(n) {
		bytes += len(leaf.Token.Text)
	}
	return bytes
}

// own is the own span of a node that begins at a byte.
func own(n api.Node, from int) api.Span {
	var span api.Span
	found, end := false, from
	for _, leaf := range leaves(n) {
		start := end
		end += len(leaf.Token.Text)
		if isEmpty(leaf.Token) || lex.Ahead(leaf.Token) {
			continue
		}
		if !found {
			found, span.From = true, start
		}
		span.To = end
	}
	if !found {
		return api.Span{From: end, To: end}
	}
	return span
}

// isEmpty says whether a token is the empty one, which is none of a tree's tokens.
func isEmpty(t api.Token) bool { return t == api.Token{} }
