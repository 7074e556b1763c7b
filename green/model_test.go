package green_test

import (
	"math"
	"slices"
	"strconv"
	"strings"
	"testing"

	"rostrum/api"
	"rostrum/green"
	"rostrum/lex"
)

// The chapter's terms, word by word: a tree is laid out once, from the left, and each node notes where it begins and ends.

// cell is one of a tree's tokens, where it stands, and the path of its Leaf.
type cell struct {
	token api.Token
	span  api.Span
	path  []int
}

// spot is a node of a tree, with its path and its spans.
type spot struct {
	node      api.Node
	path      []int
	full, own api.Span
	inLeaf    bool // it is within a Leaf
	inMissing bool // it is within a Missing
}

// model is a tree that is laid out; spots are in the order of their paths.
type model struct {
	cells []cell
	spots []spot
}

func modelOf(n api.Node) *model {
	m := &model{}
	m.lay(spot{node: n}, 0)
	return m
}

// lay lays a node out from a byte on, and returns where it ends.
func (m *model) lay(s spot, from int) int {
	index, first, to := len(m.spots), len(m.cells), from
	m.spots = append(m.spots, s)
	for i, kid := range s.node.Kids {
		inner := spot{
			node:      kid,
			path:      slices.Concat(s.path, []int{i}),
			inLeaf:    s.inLeaf || s.node.Kind == 1,
			inMissing: s.inMissing || s.node.Kind == 2,
		}
		to = m.lay(inner, to)
	}
	if x := s.node.Token; s.node.Kind == 1 && !s.inMissing && (x.Kind != 0 || x.Text != "") {
		m.cells = append(m.cells, cell{x, api.Span{From: to, To: to + len(x.Text)}, s.path})
		to += len(x.Text)
	}
	m.spots[index].full = api.Span{From: from, To: to}
	m.spots[index].own = api.Span{From: to, To: to}
	if l := slices.DeleteFunc(slices.Clone(m.cells[first:]), func(x cell) bool { return x.token.Kind == 1 || x.token.Kind == 2 }); len(l) > 0 {
		m.spots[index].own = api.Span{From: l[0].span.From, To: l[len(l)-1].span.To}
	}
	return to
}

// text: of all tokens.
func (m *model) text() string {
	s := ""
	for _, x := range m.cells {
		s += x.token.Text
	}
	return s
}

// tokens: of all cells.
func (m *model) tokens() []api.Token {
	var l []api.Token
	for _, x := range m.cells {
		l = append(l, x.token)
	}
	return l
}

// leafOf: the path of the Leaf of a byte, the only one that is not within another one.
func (m *model) leafOf(at int) ([]int, bool) {
	for _, s := range m.spots {
		if s.node.Kind == 1 && !s.inLeaf && s.full.From <= at && at < s.full.To {
			return s.path, true
		}
	}
	return nil, false
}

// valid: each node by itself, and then the tokens of the text.
func (m *model) valid() bool {
	for _, s := range m.spots {
		if !s.inLeaf && !fits(s.node) {
			return false
		}
	}
	l, e := lex.Tokens(m.text())
	return e == api.OK && slices.Equal(l, m.tokens())
}

// fits: what the chapter says of a node by itself, and of a Leaf's Kids.
func fits(n api.Node) bool {
	switch {
	case n.Kind == 1:
		empty := n.Token.Kind == 0 && n.Token.Text == ""
		return (empty || alone(n.Token) && !ahead(n.Token)) && !slices.ContainsFunc(n.Kids, func(kid api.Node) bool {
			return kid.Kind != 1 || len(kid.Kids) > 0 || !alone(kid.Token) || !ahead(kid.Token)
		})
	case n.Kind == 2:
		return len(n.Kids) == 0 && n.Token.Kind == 0
	case n.Kind >= 3 && n.Kind <= 18:
		return n.Token.Kind == 0 && n.Token.Text == ""
	}
	return false
}

// alone: a token that is one by itself.
func alone(x api.Token) bool {
	one, e := lex.One(x.Text)
	return e == api.OK && one == x
}

// ahead: a Blank or a Remark.
func ahead(x api.Token) bool { return x.Kind == 1 || x.Kind == 2 }

// told: a tree in a text of its own; trees are the same if these are.
func told(n api.Node) string {
	var s strings.Builder
	tell(&s, n)
	return s.String()
}

func tell(s *strings.Builder, n api.Node) {
	s.WriteString(strconv.Itoa(int(n.Kind)))
	if (n.Token != api.Token{}) {
		s.WriteString(":" + strconv.Itoa(int(n.Token.Kind)) + strconv.Quote(n.Token.Text))
	}
	if len(n.Kids) == 0 {
		return
	}
	s.WriteString("(")
	for i, kid := range n.Kids {
		if i > 0 {
			s.WriteString(" ")
		}
		tell(s, kid)
	}
	s.WriteString(")")
}

// brief: a tree for a message.
func brief(n api.Node) string {
	s := told(n)
	if len(s) > 400 {
		s = s[:200] + ".." + s[len(s)-200:]
	}
	return s
}

// holds holds every call that takes a tree alone, or a place in it, against the model, and all properties.
func holds(t *testing.T, n api.Node) *model {
	t.Helper()
	before, m := told(n), modelOf(n)
	if got := green.Text(n); got != m.text() {
		t.Fatalf("Text(%s): %q, not %q", brief(n), got, m.text())
	}
	if got := green.Tokens(n); !slices.Equal(got, m.tokens()) {
		t.Fatalf("Tokens(%s): %v, not %v", brief(n), got, m.tokens())
	}
	if got := green.Check(n); (got == api.OK) != m.valid() || got != api.OK && got != api.ErrForm {
		t.Fatalf("Check(%s): %v, valid: %v", brief(n), got, m.valid())
	}
	for _, s := range m.spots {
		spotHolds(t, n, s)
		for _, i := range []int{-1, len(s.node.Kids), len(s.node.Kids) + 1, math.MinInt, math.MaxInt} {
			leadsNowhere(t, n, slices.Concat(s.path, []int{i}))
			leadsNowhere(t, n, slices.Concat(s.path, []int{i, 0}))
		}
	}
	finds(t, n, m)
	parts(t, n, m)
	if now := told(n); now != before {
		t.Fatalf("%s was changed: %s", before, now)
	}
	return m
}

// spotHolds: At, Full and Own of a path.
func spotHolds(t *testing.T, n api.Node, s spot) {
	t.Helper()
	if got, e := green.At(n, s.path); e != api.OK || told(got) != told(s.node) {
		t.Fatalf("At(%s, %v): %s, %v", brief(n), s.path, brief(got), e)
	}
	if got, e := green.Full(n, s.path); e != api.OK || got != s.full {
		t.Fatalf("Full(%s, %v): %v, %v, not %v", brief(n), s.path, got, e, s.full)
	}
	if got, e := green.Own(n, s.path); e != api.OK || got != s.own {
		t.Fatalf("Own(%s, %v): %v, %v, not %v", brief(n), s.path, got, e, s.own)
	}
}

// leadsNowhere: the path identifies no node.
func leadsNowhere(t *testing.T, n api.Node, path []int) {
	t.Helper()
	if got, e := green.At(n, path); e != api.ErrNone || told(got) != "0" {
		t.Fatalf("At(%s, %v): %s, %v", brief(n), path, brief(got), e)
	}
	if got, e := green.Full(n, path); e != api.ErrNone || got != (api.Span{}) {
		t.Fatalf("Full(%s, %v): %v, %v", brief(n), path, got, e)
	}
	if got, e := green.Own(n, path); e != api.ErrNone || got != (api.Span{}) {
		t.Fatalf("Own(%s, %v): %v, %v", brief(n), path, got, e)
	}
	if got, e := green.Put(n, path, name("z")); e != api.ErrNone || told(got) != "0" {
		t.Fatalf("Put(%s, %v, ..): %s, %v", brief(n), path, brief(got), e)
	}
}

// finds: Find of each byte, and of what is none.
func finds(t *testing.T, n api.Node, m *model) {
	t.Helper()
	size := m.spots[0].full.To
	for at := range size {
		want, _ := m.leafOf(at)
		if got, e := green.Find(n, at); e != api.OK || !slices.Equal(got, want) {
			t.Fatalf("Find(%s, %d): %v, %v, not %v", brief(n), at, got, e, want)
		}
	}
	for _, at := range []int{-1, -2, size, size + 1, math.MinInt, math.MaxInt} {
		if got, e := green.Find(n, at); e != api.ErrArg || len(got) > 0 {
			t.Fatalf("Find(%s, %d): %v, %v", brief(n), at, got, e)
		}
	}
}

// parts: P11.3 and P11.4, by the calls alone.
func parts(t *testing.T, n api.Node, m *model) {
	t.Helper()
	text, found := green.Text(n), make([]int, len(green.Text(n)))
	for _, s := range m.spots {
		full, _ := green.Full(n, s.path)
		own, _ := green.Own(n, s.path)
		part, _ := green.At(n, s.path)
		if own.From < full.From || own.From > own.To || own.To > full.To {
			t.Fatalf("%v of %s: own span %v, full span %v", s.path, brief(n), own, full)
		}
		end := full.From
		for i := range part.Kids {
			kid, _ := green.Full(n, slices.Concat(s.path, []int{i}))
			if kid.From != end || kid.To < end {
				t.Fatalf("%v of %s: the Kid %d has the span %v, the one before it ends at %d", s.path, brief(n), i, kid, end)
			}
			end = kid.To
		}
		if part.Kind == api.Leaf && !s.inMissing {
			end += len(part.Token.Text)
		}
		if end != full.To {
			t.Fatalf("%v of %s: its parts end at %d, not at %d", s.path, brief(n), end, full.To)
		}
		if got := green.Text(part); !s.inMissing && got != text[full.From:full.To] {
			t.Fatalf("%v of %s: the text %q, that of its full span is %q", s.path, brief(n), got, text[full.From:full.To])
		}
		if part.Kind == api.Leaf && !s.inLeaf {
			for at := full.From; at < full.To; at++ {
				found[at]++
				if path, e := green.Find(n, at); e != api.OK || !slices.Equal(path, s.path) {
					t.Fatalf("Find(%s, %d): %v, %v, but it is in %v", brief(n), at, path, e, s.path)
				}
			}
		}
	}
	for at, times := range found {
		if times != 1 {
			t.Fatalf("%s: %d is in %d Leaves", brief(n), at, times)
		}
	}
}

// puts: Put of a node at a path, and P11.5.
func puts(t *testing.T, n api.Node, s spot, x api.Node) {
	t.Helper()
	before, put := told(n), told(x)
	after, e := green.Put(n, s.path, x)
	if want := modelPut(n, s.path, x); e != api.OK || told(after) != told(want) {
		t.Fatalf("Put(%s, %v, %s): %s, %v, not %s", brief(n), s.path, brief(x), brief(after), e, brief(want))
	}
	if there, e := green.At(after, s.path); e != api.OK || !green.Same(there, x) {
		t.Fatalf("Put(%s, %v, %s): there is %s, %v", brief(n), s.path, brief(x), brief(there), e)
	}
	text, putText := green.Text(n), green.Text(x)
	if s.inMissing {
		putText = ""
	}
	if got, want := green.Text(after), text[:s.full.From]+putText+text[s.full.To:]; got != want {
		t.Fatalf("Put(%s, %v, %s): the text %q, not %q", brief(n), s.path, brief(x), got, want)
	}
	back, e := green.Put(after, s.path, s.node)
	if e != api.OK || !green.Same(back, n) || told(back) != before {
		t.Fatalf("Put(%s, %v, %s), and back: %s, %v", brief(n), s.path, brief(x), brief(back), e)
	}
	if told(n) != before || told(x) != put {
		t.Fatalf("Put(%s, %v, %s): changed: %s, %s", before, s.path, put, brief(n), brief(x))
	}
}

// modelPut: the lists along the path anew, from the left.
func modelPut(n api.Node, path []int, x api.Node) api.Node {
	if len(path) == 0 {
		return x
	}
	i := path[0]
	n.Kids = slices.Concat(n.Kids[:i], []api.Node{modelPut(n.Kids[i], path[1:], x)}, n.Kids[i+1:])
	return n
}
