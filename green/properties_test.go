package green_test

import (
	"slices"
	"testing"

	"rostrum/api"
	"rostrum/green"
	"rostrum/lex"
)

// wellBehaved: a tree is valid, with the text and the tokens that it was made of, and so is each part of it that is no blank or remark.
func wellBehaved(t *testing.T, n api.Node, text string) {
	t.Helper()
	l, _ := lex.Tokens(text)
	if green.Text(n) != text || !slices.Equal(green.Tokens(n), l) {
		t.Fatalf("%s: not %q", brief(n), text)
	}
	for _, s := range holds(t, n).spots {
		want := api.OK
		if s.inLeaf {
			want = api.ErrForm
		}
		if got := green.Check(s.node); got != want {
			t.Fatalf("Check(%s), of %v in %s: %v", brief(s.node), s.path, brief(n), got)
		}
	}
}

// P11.1 to P11.4: valid trees of documents, and each part of them.
func TestDocuments(t *testing.T) {
	r := source()
	for _, text := range documents() {
		for range 6 {
			wellBehaved(t, treeOf(t, r, text), text)
		}
	}
}

// texts: short ones, of tokens of all kinds.
func texts() []string {
	pieces := []string{" ", "\n", "(**)", "let", "x", "1", "1.", "e5", "\"a\"", "-", ">", "(", "*", ")", "_", "\u20ac", "\"", "\\", "(*"}
	var l []string
	for _, a := range pieces {
		for _, b := range pieces {
			for _, c := range []string{"", "x", " ", "\n"} {
				l = append(l, a+b+c)
			}
		}
	}
	return l
}

// P11.1 to P11.5: valid trees of short texts, and Put at each path.
func TestShortTexts(t *testing.T) {
	r := source()
	for _, text := range texts() {
		n := treeOf(t, r, text)
		wellBehaved(t, n, text)
		for _, s := range modelOf(n).spots {
			puts(t, n, s, treeOf(t, r, text))
			puts(t, n, s, anyTree(r, 2))
		}
	}
}

// P11.1 to P11.5: valid trees with one thing changed, drawn; most are not valid.
func TestChangedTrees(t *testing.T) {
	r := source()
	valid, l := 0, texts()
	for range 6000 {
		n := treeOf(t, r, l[r.IntN(len(l))])
		x := changed(r, n)
		if holds(t, x).valid() {
			valid++
		}
		sameHolds(t, n, x)
		spots := modelOf(x).spots
		puts(t, x, spots[r.IntN(len(spots))], n)
		y := changed(r, x)
		holds(t, y)
		sameHolds(t, x, y)
	}
	if valid < 200 || valid > 4000 {
		t.Errorf("%d are valid", valid)
	}
}

// P11.1 to P11.5: drawn trees of anything.
func TestAnyTrees(t *testing.T) {
	r := source()
	before := api.Node{}
	for range 20000 {
		n := anyTree(r, 1+r.IntN(5))
		m := holds(t, n)
		puts(t, n, m.spots[r.IntN(len(m.spots))], anyTree(r, r.IntN(3)))
		sameHolds(t, n, before)
		before = n
	}
}

// sameHolds: P11.1: Same of two trees.
func sameHolds(t *testing.T, a, b api.Node) {
	t.Helper()
	want := told(a) == told(b)
	if green.Same(a, b) != want || green.Same(b, a) != want || !green.Same(a, a) || !green.Same(b, b) {
		t.Fatalf("Same(%s, %s): not %v", brief(a), brief(b), want)
	}
}

// R2: the result depends on the arguments alone, however often and in whatever order it is asked.
func TestAgain(t *testing.T) {
	type asked struct {
		n    api.Node
		path []int
		m    *model
	}
	r := source()
	var row []asked
	for range 200 {
		x := asked{n: anyTree(r, 4)}
		x.m = modelOf(x.n)
		x.path = x.m.spots[r.IntN(len(x.m.spots))].path
		row = append(row, x)
	}
	for range 5000 {
		x := row[r.IntN(len(row))]
		i := slices.IndexFunc(x.m.spots, func(s spot) bool { return slices.Equal(s.path, x.path) })
		spotHolds(t, x.n, x.m.spots[i])
		if green.Text(x.n) != x.m.text() || !slices.Equal(green.Tokens(x.n), x.m.tokens()) {
			t.Fatalf("%s again: %q, %v", brief(x.n), green.Text(x.n), green.Tokens(x.n))
		}
		finds(t, x.n, x.m)
	}
}
