package rope

import (
	"strings"
	"testing"

	"rostrum/api"
)

// sound holds a tree against what node says of it, which is more than the bound of the depth asks; its pieces' texts are appended to l.
func sound(t *testing.T, n *node, l []string) []string {
	t.Helper()
	if n.isPiece() {
		want := data{size: len(n.text), ends: strings.Count(n.text, "\n"), depth: 1}
		if n.data != want || n.size < 1 || n.size > maxPiece || n.right != nil {
			t.Fatalf("a piece of %d bytes: %v", len(n.text), n.data)
		}
		return append(l, n.text)
	}
	l = sound(t, n.right, sound(t, n.left, l))
	a, b := n.left.data, n.right.data
	want := data{size: a.size + b.size, ends: a.ends + b.ends, depth: 1 + max(a.depth, b.depth)}
	if n.data != want || n.text != "" || a.depth > b.depth+1 || b.depth > a.depth+1 {
		t.Fatalf("a concatenation of %v and %v: %v", a, b, n.data)
	}
	return l
}

// soundRope holds the pieces against one another, too.
func soundRope(t *testing.T, r *Rope) {
	t.Helper()
	if r.root == nil {
		return
	}
	l := sound(t, r.root, nil)
	for i, s := range l[1:] {
		if len(l[i])+len(s) <= maxPiece {
			t.Fatalf("pieces of %d and %d bytes side by side", len(l[i]), len(s))
		}
	}
}

// P3.3: the tree is balanced, its data are right and its pieces no crumbs, whatever the edits.
func TestTree(t *testing.T) {
	seed := uint64(1)
	below := func(n int) int {
		seed = seed*6364136223846793005 + 1442695040888963407
		return int((seed >> 33) % uint64(n))
	}
	sizes := []int{0, 1, 2, 60, maxPiece / 2, maxPiece - 1, maxPiece, maxPiece + 1, 3*maxPiece + 1, 5000}
	for _, first := range []int{0, 1, maxPiece, 10 * maxPiece, api.MaxText} {
		r, _ := Of(strings.Repeat("let\n", first/4+1)[:first])
		soundRope(t, r)
		for range 3000 {
			from := below(r.Len() + 1)
			to := min(r.Len(), from+below(sizes[below(len(sizes))]+1))
			s := strings.Repeat("\n", below(sizes[below(len(sizes))]+1))
			if q, e := r.Replace(api.Span{From: from, To: to}, s); e == api.OK {
				r = q
			}
			soundRope(t, r)
		}
	}
}

// P3.3: trees of all depths, beside each other and cut at each piece.
func TestJoinAndSplit(t *testing.T) {
	var trees []*node
	for _, pieces := range []int{0, 1, 2, 3, 4, 5, 8, 13, 16, 21, 34, 60} {
		var up, down *node
		for i := range pieces {
			up = join(up, piece(string(rune('a'+i%26))))
			down = join(piece(string(rune('z'-i%26))), down)
		}
		trees = append(trees, up, down)
	}
	for _, left := range trees {
		for _, right := range trees {
			joined(t, &Rope{left}, &Rope{right})
		}
	}
}

// joined holds the tree of two others against them, and its two sides, wherever it is cut.
func joined(t *testing.T, left, right *Rope) {
	t.Helper()
	r, text := &Rope{join(left.root, right.root)}, left.String()+right.String()
	deeper := max(left.Depth(), right.Depth())
	if r.String() != text || r.Depth() < deeper || r.Depth() > deeper+1 {
		t.Fatalf("depths %d and %d joined: %d, %q", left.Depth(), right.Depth(), r.Depth(), r.String())
	}
	if r.root != nil {
		sound(t, r.root, nil)
	}
	for at := range len(text) + 1 {
		c := split(r.root, at)
		if c.head != "" || c.tail != "" {
			t.Fatalf("a piece of one byte cut to %q and %q", c.head, c.tail)
		}
		for _, side := range []struct {
			n    *node
			want string
		}{{c.left, text[:at]}, {c.right, text[at:]}} {
			if got := (&Rope{side.n}).String(); got != side.want {
				t.Fatalf("cut at %d: %q, not %q", at, got, side.want)
			}
			if side.n != nil {
				sound(t, side.n, nil)
			}
		}
	}
}
