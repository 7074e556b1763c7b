package rope

import "strings"

// maxPiece is how many bytes a piece may have: few enough that an edit copies little, enough that the nodes are few.
const maxPiece = 256

// ending is a line ending.
const ending = "\n"

// data are what a node tells of the text below it.
type data struct {
	size  int // bytes
	ends  int // line endings
	depth int
}

// node is a piece of text with at least one byte, or a concatenation of two nodes whose depths differ by at most one.
// Two pieces side by side have more than maxPiece bytes together: edits, however many, don't leave a tree of crumbs.
type node struct {
	data
	text        string // of a piece
	left, right *node  // of a concatenation
}

// isPiece says whether it is a piece, not a concatenation.
func (n *node) isPiece() bool { return n.left == nil }

// piece is a node of its own copy of a text: a piece keeps no longer text alive from which it was cut.
func piece(text string) *node {
	return &node{
		data: data{size: len(text), ends: strings.Count(text, ending), depth: 1},
		text: strings.Clone(text),
	}
}

// concat is the concatenation of two nodes, as they are.
func concat(left, right *node) *node {
	return &node{
		data: data{
			size:  left.size + right.size,
			ends:  left.ends + right.ends,
			depth: 1 + max(left.depth, right.depth),
		},
		left:  left,
		right: right,
	}
}

// build is a tree of a text, all of its pieces full but the last one; nil of no bytes.
func build(text string) *node {
	if text == "" {
		return nil
	}
	pieces := (len(text) + maxPiece - 1) / maxPiece
	if pieces == 1 {
		return piece(text)
	}
	middle := pieces / 2 * maxPiece
	return concat(build(text[:middle]), build(text[middle:]))
}

// join is a tree of the pieces of two others, any of which may be nil.
// It is as deep as the deeper one, or deeper by one: so what it makes within a tree is at most two deeper than what stands beside it there.
func join(left, right *node) *node {
	switch {
	case left == nil:
		return right
	case right == nil:
		return left
	case left.depth > right.depth:
		return balance(left.left, join(left.right, right))
	case left.depth < right.depth:
		return balance(join(left, right.left), right.right)
	}
	return concat(left, right)
}

// balance is the concatenation of two nodes whose depths differ by at most two, turned where they differ by two.
func balance(left, right *node) *node {
	switch {
	case left.depth > right.depth+1:
		return turnRight(left, right)
	case right.depth > left.depth+1:
		return turnLeft(left, right)
	}
	return concat(left, right)
}

// turnRight hands a part of the left side, which is two deeper, to the right one.
func turnRight(left, right *node) *node {
	inner := left.right
	if inner.depth > left.left.depth {
		return concat(concat(left.left, inner.left), concat(inner.right, right))
	}
	return concat(left.left, concat(inner, right))
}

// turnLeft hands a part of the right side, which is two deeper, to the left one.
func turnLeft(left, right *node) *node {
	inner := right.left
	if inner.depth > right.right.depth {
		return concat(concat(left, inner.left), concat(inner.right, right.right))
	}
	return concat(concat(left, inner), right.right)
}

// cut is a tree that is cut at a byte: the pieces before and after the one with the byte within it, and this one's two parts.
type cut struct {
	left       *node
	head, tail string
	right      *node
}

// split cuts a tree, which may be nil, at a byte of it or at its end.
func split(n *node, at int) cut {
	switch {
	case at == 0:
		return cut{right: n}
	case at == n.size:
		return cut{left: n}
	case n.isPiece():
		return cut{head: n.text[:at], tail: n.text[at:]}
	case at <= n.left.size:
		c := split(n.left, at)
		c.right = join(c.right, n.right)
		return c
	}
	c := split(n.right, at-n.left.size)
	c.left = join(n.left, c.left)
	return c
}

// fill is a tree of two others with a text between them, which takes in the pieces beside it that have room in one with it.
func fill(left *node, text string, right *node) *node {
	last := lastPiece(left)
	if last != "" && len(last)+len(text) <= maxPiece {
		left = split(left, left.size-len(last)).left
		text = last + text
	}
	first := firstPiece(right)
	if first != "" && lastSize(text)+len(first) <= maxPiece {
		right = split(right, len(first)).right
		text += first
	}
	return join(join(left, build(text)), right)
}

// lastSize is how many bytes the last piece has that build makes of a text.
func lastSize(text string) int {
	if text == "" {
		return 0
	}
	return (len(text)-1)%maxPiece + 1
}

// firstPiece is the text of a tree's first piece, empty without one.
func firstPiece(n *node) string {
	if n == nil {
		return ""
	}
	for !n.isPiece() {
		n = n.left
	}
	return n.text
}

// lastPiece is the text of a tree's last piece, empty without one.
func lastPiece(n *node) string {
	if n == nil {
		return ""
	}
	for !n.isPiece() {
		n = n.right
	}
	return n.text
}

// write appends the bytes of a span of a tree, which may be nil if there are none.
func (n *node) write(to *strings.Builder, from, end int) {
	if from >= end {
		return
	}
	if n.isPiece() {
		to.WriteString(n.text[from:end])
		return
	}
	middle := n.left.size
	n.left.write(to, from, min(end, middle))
	n.right.write(to, max(from, middle)-middle, end-middle)
}

// behind is the byte behind so many line endings, of which there are as many.
func (n *node) behind(count int) int {
	at := 0
	for !n.isPiece() {
		if count <= n.left.ends {
			n = n.left
			continue
		}
		count -= n.left.ends
		at += n.left.size
		n = n.right
	}
	place := 0
	for range count {
		place += strings.Index(n.text[place:], ending) + len(ending)
	}
	return at + place
}

// ahead is how many line endings stand ahead of a byte of a tree, or of its end.
func (n *node) ahead(at int) int {
	count := 0
	for !n.isPiece() {
		if at <= n.left.size {
			n = n.left
			continue
		}
		count += n.left.ends
		at -= n.left.size
		n = n.right
	}
	return count + strings.Count(n.text[:at], ending)
}
