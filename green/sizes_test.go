package green_test

import (
	"slices"
	"strings"
	"testing"

	"rostrum/api"
	"rostrum/green"
)

// deepest is how many parts may be nested.
const deepest = 1 << 16

// agrees holds the calls against numbers, for trees that are too large for the model.
func agrees(t *testing.T, n api.Node, text string, tokens int, valid api.Errno) {
	t.Helper()
	if got := green.Text(n); got != text {
		t.Errorf("Text: %d bytes, not %d", len(got), len(text))
	}
	if got := green.Tokens(n); len(got) != tokens {
		t.Errorf("Tokens: %d, not %d", len(got), tokens)
	}
	if got := green.Check(n); got != valid {
		t.Errorf("Check: %v, not %v", got, valid)
	}
	again, e := green.At(n, nil)
	if e != api.OK || !green.Same(n, again) || !green.Same(again, n) {
		t.Errorf("At, Same: %v", e)
	}
	if got, e := green.Full(n, nil); e != api.OK || got != (api.Span{To: len(text)}) {
		t.Errorf("Full: %v, %v", got, e)
	}
	if path, e := green.Find(n, len(text)); e != api.ErrArg || len(path) > 0 {
		t.Errorf("Find behind the text: %d steps, %v", len(path), e)
	}
}

// chain is a node within others, so many of them.
func chain(inner api.Node, times int) api.Node {
	for range times {
		inner = doc(inner)
	}
	return inner
}

// P11.1 to P11.5: as deep as anything is promised, and one node at each depth.
func TestChain(t *testing.T) {
	path := make([]int, deepest-2)
	x := name("x", blank(" "))
	n := chain(x, len(path))
	agrees(t, n, " x", 2, api.OK)
	for _, depth := range []int{0, 1, 2, 1000, len(path) - 1, len(path)} {
		spans(t, api.Node{Kind: api.Doc, Kids: n.Kids}, path[:depth], 0, 2, 1, 2)
	}
	found(t, n, 0, path)
	found(t, n, 1, path)
	if got, e := green.At(n, path); e != api.OK || !green.Same(got, x) {
		t.Errorf("At: %s, %v", brief(got), e)
	}
	blanks := append(slices.Clone(path), 0)
	if got, e := green.Own(n, blanks); e != api.OK || got != (api.Span{From: 1, To: 1}) {
		t.Errorf("Own: %v, %v", got, e)
	}
	for _, none := range [][]int{append(slices.Clone(blanks), 0), append(slices.Clone(path), 1), append(slices.Clone(path[1:]), 1), append(slices.Clone(path), -1)} {
		if got, e := green.At(n, none); e != api.ErrNone || got.Kind != 0 {
			t.Errorf("At of %d steps: %v, %v", len(none), got.Kind, e)
		}
	}
	other, e := green.Put(n, path, name("y"))
	if e != api.OK || green.Text(other) != "y" || green.Same(n, other) || green.Text(n) != " x" {
		t.Errorf("Put: %v, %q", e, green.Text(other))
	}
	if back, e := green.Put(other, path, x); e != api.OK || !green.Same(n, back) {
		t.Errorf("Put, and back: %v", e)
	}
}

// P11.1 to P11.4: Leaves within Leaves, which is not valid, however deep.
func TestChainOfLeaves(t *testing.T) {
	const times = deepest - 2
	n := sign("(")
	for range times {
		n = sign("(", n)
	}
	agrees(t, n, strings.Repeat("(", times+1), times+1, api.ErrForm)
	n = doc(n)
	for _, at := range []int{0, 1, times / 2, times} {
		found(t, n, at, []int{0})
	}
	path := make([]int, times+1)
	for _, depth := range []int{0, 1, 2, 1000, times, times + 1} {
		to := times + 1 - max(0, depth-1)
		if got, e := green.Full(n, path[:depth]); e != api.OK || got != (api.Span{To: to}) {
			t.Errorf("Full of %d steps: %v, %v, not %d", depth, got, e, to)
		}
		if got, e := green.Own(n, path[:depth]); e != api.OK || got != (api.Span{To: to}) {
			t.Errorf("Own of %d steps: %v, %v, not %d", depth, got, e, to)
		}
	}
}

// P11.1 to P11.5: a Leaf before the next deeper node, and one after it: deep, and with many Leaves.
func TestComb(t *testing.T) {
	const teeth = 30000
	n := node(api.Round)
	for range teeth {
		n = node(api.Round, sign("("), n, sign(")"))
	}
	text := strings.Repeat("(", teeth) + strings.Repeat(")", teeth)
	agrees(t, n, text, 2*teeth, api.OK)
	path := slices.Repeat([]int{1}, teeth)
	for _, depth := range []int{0, 1, 2, 1000, teeth - 1, teeth} {
		spans(t, api.Node{Kind: api.Round, Kids: n.Kids}, path[:depth], depth, 2*teeth-depth, depth, 2*teeth-depth)
	}
	for _, at := range []int{0, 1, 2, 1000, teeth - 1} {
		found(t, n, at, append(slices.Clone(path[:at]), 0))
		found(t, n, 2*teeth-1-at, append(slices.Clone(path[:at]), 2))
	}
	other, e := green.Put(n, path, missing("x"))
	if e != api.OK || green.Text(other) != text || green.Same(n, other) {
		t.Errorf("Put: %v", e)
	}
}

// P11.1 to P11.5: many Kids of one node, as many as a text may have tokens, with Leaves of no bytes between them.
func TestWide(t *testing.T) {
	var kids []api.Node
	for range api.MaxText / 4 {
		kids = append(kids, name("x", blank(" ")), missing("+"), sign("-", blank("\n")), end())
	}
	n := doc(kids...)
	agrees(t, n, strings.Repeat(" x\n-", api.MaxText/4), api.MaxText, api.OK)
	for _, i := range []int{0, 4, 8, 40000, len(kids) - 4} {
		spans(t, n, []int{i}, i, i+2, i+1, i+2)
		spans(t, n, []int{i, 0}, i, i+1, i+1, i+1)
		spans(t, n, []int{i + 1}, i+2, i+2, i+2, i+2)
		spans(t, n, []int{i + 2}, i+2, i+4, i+3, i+4)
		spans(t, n, []int{i + 3}, i+4, i+4, i+4, i+4)
		for at := i; at < i+4; at++ {
			found(t, n, at, []int{i + (at-i)/2*2})
		}
		other, e := green.Put(n, []int{i + 1}, sign("+"))
		if s := green.Text(other); e != api.OK || len(s) != api.MaxText+1 || s[i+2] != '+' || green.Check(other) != api.ErrForm {
			t.Errorf("Put(%d): %v", i, e)
		}
	}
	// Of a Leaf.
	blanks := end(slices.Repeat([]api.Node{remark("(**)"), blank("\n\n\t ")}, api.MaxText/8)...)
	agrees(t, blanks, strings.Repeat("(**)\n\n\t ", api.MaxText/8), api.MaxText/4, api.OK)
	spans(t, blanks, nil, 0, api.MaxText, api.MaxText, api.MaxText)
	spans(t, blanks, []int{8191}, 4*8191, 4*8192, 4*8192, 4*8192)
	found(t, blanks, api.MaxText-1, nil)
}

// P11.1, P11.2: deep and wide: many nodes at a great depth.
func TestDeepAndWide(t *testing.T) {
	const depth, width = 1 << 14, 1 << 14
	n := chain(doc(slices.Repeat([]api.Node{doc(sign("("))}, width)...), depth)
	agrees(t, n, strings.Repeat("(", width), width, api.OK)
	found(t, n, width-1, append(make([]int, depth), width-1, 0))
}
