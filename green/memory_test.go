package green_test

import (
	"slices"
	"strings"
	"testing"
	"unsafe"

	"rostrum/api"
	"rostrum/green"
)

// area is a part of memory.
type area struct{ from, to uintptr }

func (a area) meets(b area) bool { return a.from < b.to && b.from < a.to }

// textArea is where a text lies.
func textArea(s string) area {
	at := uintptr(unsafe.Pointer(unsafe.StringData(s)))
	return area{at, at + uintptr(len(s))}
}

// lists are where the lists of a tree lie, with their spare capacity.
func lists(n api.Node) []area {
	var l []area
	if cap(n.Kids) > 0 {
		at := uintptr(unsafe.Pointer(unsafe.SliceData(n.Kids)))
		l = append(l, area{at, at + uintptr(cap(n.Kids))*unsafe.Sizeof(n)})
	}
	for _, kid := range n.Kids {
		l = append(l, lists(kid)...)
	}
	return l
}

// tokenTexts are where the texts of a tree's tokens lie.
func tokenTexts(n api.Node) []area {
	var l []area
	if n.Token.Text != "" {
		l = append(l, textArea(n.Token.Text))
	}
	for _, kid := range n.Kids {
		l = append(l, tokenTexts(kid)...)
	}
	return l
}

// apart says whether no area of the one list meets one of the other.
func apart(a, b []area) bool {
	for _, x := range a {
		if slices.ContainsFunc(b, x.meets) {
			return false
		}
	}
	return true
}

// isNew: a tree has no memory of others, and no two of its lists have memory in common.
func isNew(t *testing.T, what string, n api.Node, others ...api.Node) {
	t.Helper()
	l := lists(n)
	for i, x := range l {
		if slices.ContainsFunc(l[i+1:], x.meets) {
			t.Fatalf("%s: two lists of %s share memory", what, brief(n))
		}
	}
	for _, other := range others {
		if !apart(l, lists(other)) {
			t.Fatalf("%s: %s shares a list with %s", what, brief(n), brief(other))
		}
		if !apart(tokenTexts(n), tokenTexts(other)) {
			t.Fatalf("%s: %s shares a text with %s", what, brief(n), brief(other))
		}
	}
}

// sharing is a tree whose lists have memory in common, and spare capacity with something in it.
func sharing() api.Node {
	long := "let x = y (* a *) \n"
	row := []api.Node{
		leaf(api.Word, long[:3]),
		name(long[4:5], blank(long[3:4]), remark(long[10:17])),
		{Kind: api.Missing, Token: api.Token{Text: long[6:7]}},
		end(blank(long[18:19])),
		name("junk"),
		name("junk"),
	}
	inner := node(api.Round, row[:3]...)
	row = append(row, inner, inner)
	return doc(row[1], inner, node(api.List, row[:4]...), inner)
}

// R3: trees that are returned are new memory, down to each Kid, also where what was given shares some.
func TestTreesAreNew(t *testing.T) {
	r := source()
	trees := []api.Node{sharing(), example(), {}, name("x", blank(" ")), missing("x", name("y")), end(end(end(name("x"))))}
	for range 300 {
		trees = append(trees, anyTree(r, 4))
	}
	for i, n := range trees {
		x := trees[(i+1)%len(trees)]
		for _, s := range modelOf(n).spots {
			at, _ := green.At(n, s.path)
			again, _ := green.At(n, s.path)
			isNew(t, "At", at, n, again)
			put, _ := green.Put(n, s.path, x)
			again, _ = green.Put(n, s.path, x)
			isNew(t, "Put", put, n, x, again)
			put, _ = green.Put(n, s.path, n)
			isNew(t, "Put of itself", put, n, again)
		}
	}
}

// spoil writes into everything that a tree has, and into spare capacity.
func spoil(n *api.Node) {
	n.Kids = n.Kids[:cap(n.Kids)]
	for i := range n.Kids {
		spoil(&n.Kids[i])
	}
	*n = api.Node{Kind: 99, Token: api.Token{Kind: 99, Text: "spoilt"}, Kids: n.Kids}
}

// R3: what is written into a result neither the argument shows nor another result.
func TestSpoiltResults(t *testing.T) {
	n := sharing()
	before, m := told(n), modelOf(n)
	for _, s := range m.spots {
		one, _ := green.At(n, s.path)
		two, _ := green.Put(n, s.path, n)
		three, _ := green.Put(n, s.path, s.node)
		want := []string{told(s.node), told(modelPut(n, s.path, n)), before}
		for i, x := range []*api.Node{&one, &two, &three} {
			if told(*x) != want[i] {
				t.Errorf("%v: %s, not %s", s.path, brief(*x), want[i])
			}
			spoil(x)
			if told(n) != before {
				t.Fatalf("%v: the tree shows what was written into a result: %s", s.path, brief(n))
			}
		}
	}
	for at := range len(m.text()) {
		path, _ := green.Find(n, at)
		want := slices.Clone(path)
		for i := range path[:cap(path)] {
			path[:cap(path)][i] = 99
		}
		found(t, n, at, want)
	}
}

// R3: lists of tokens and paths are new memory, with their spare capacity, in which nothing stands.
func TestListsAreNew(t *testing.T) {
	for _, n := range []api.Node{sharing(), example(), name("x"), chain(doc(name("a"), sign("+"), name("b")), 9)} {
		one := green.Tokens(n)
		two := green.Tokens(n)
		for _, x := range one[len(one):cap(one)] {
			if (x != api.Token{}) {
				t.Errorf("%v stands in spare capacity", x)
			}
		}
		for i := range one[:cap(one)] {
			one[:cap(one)][i] = api.Token{Kind: 99, Text: "spoilt"}
		}
		if want := modelOf(n).tokens(); !slices.Equal(two, want) || !slices.Equal(green.Tokens(n), want) {
			t.Errorf("Tokens(%s) shows what was written in another result", brief(n))
		}
		for at := range len(green.Text(n)) {
			path, _ := green.Find(n, at)
			for _, i := range path[len(path):cap(path)] {
				if i != 0 {
					t.Errorf("Find(%s, %d): %d stands in spare capacity", brief(n), at, i)
				}
			}
		}
	}
}

// R3: no text of a result is a part of an argument, which it would keep in memory.
func TestTextsAreNew(t *testing.T) {
	long := strings.Repeat("let x = 1 (* a *) ", 100)
	for _, n := range []api.Node{name(long), doc(end(), name(long[:3]), end()), doc(name(long[:3]), sign(long[3:])), name("", blank(long))} {
		from := textArea(long)
		if got := green.Text(n); got == "" || textArea(got).meets(from) {
			t.Errorf("Text(%s): %d bytes, a part of a token", brief(n), len(got))
		}
		for _, x := range green.Tokens(n) {
			if textArea(x.Text).meets(from) {
				t.Errorf("Tokens(%s): a part of a token", brief(n))
			}
		}
	}
}

// R3: trees and paths that are handed in are not changed, nor read beyond their length, by any call.
func TestArgumentsStay(t *testing.T) {
	n, m := sharing(), example()
	row := []int{2, 1, 0, 99, -1}
	kids := []api.Node{name("x"), sign("+"), name("junk"), {Kind: 99, Kids: []api.Node{name("junk")}}}
	short := doc(kids[:2]...)
	before := []string{told(n), told(m), told(doc(kids...))}
	for _, path := range [][]int{row[:0], row[:1], row[:2], row[:3], row[:4], row} {
		green.At(n, path)
		green.Full(n, path)
		green.Own(n, path)
		green.Put(n, path, m)
		green.Put(m, path, n)
	}
	green.Check(n)
	green.Same(n, m)
	green.Find(n, 2)
	if !slices.Equal(row, []int{2, 1, 0, 99, -1}) {
		t.Errorf("a path was changed: %v", row)
	}
	holds(t, short)
	check(t, short, api.OK)
	if got := green.Text(short); got != "x+" {
		t.Errorf("Text: %q", got)
	}
	if !green.Same(short, doc(name("x"), sign("+"))) || green.Same(short, doc(kids...)) {
		t.Error("Same: goes beyond the length of a list")
	}
	leadsNowhere(t, short, []int{2})
	if after := []string{told(n), told(m), told(doc(kids...))}; !slices.Equal(before, after) {
		t.Errorf("trees were changed: %v", after)
	}
}
