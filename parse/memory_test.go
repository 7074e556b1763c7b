package parse_test

import (
	"slices"
	"strings"
	"sync"
	"testing"
	"unsafe"

	"rostrum/api"
	"rostrum/green"
	"rostrum/parse"
)

// R2, R3: what is new memory, and what is left as it is.

// samples are texts whose trees have nodes of all Kinds.
func samples() []string {
	return []string{
		"", " (* a *) ", "let x = 1", ") ] let x =", "(* a", "let rec f a (b, _) [c; 1] () [] = (* a *) if a then f b else match c with | [] -> 1.5 | h :: t -> - \"a\" ^ (fun x -> x) y\n",
		"let x = let y = 1 in (y, [y; true]) ) $ let = ( let f $ a =", "let f a b = a + b * 2 :: c @ d && e (* b *) (**) ;; ;;", "let x = " + strings.Repeat("( ", 66) + "x", "let " + strings.Repeat("[ ", 66) + "x",
	}
}

// area is a part of memory.
type area struct{ from, to uintptr }

func (a area) meets(b area) bool { return a.from < b.to && b.from < a.to }

func textArea(s string) area {
	at := uintptr(unsafe.Pointer(unsafe.StringData(s)))
	return area{at, at + uintptr(len(s))}
}

// lists are where the lists of a tree lie, with their spare capacity.
func lists(n api.Node) []area {
	var l []area
	eachNode(&n, func(at *api.Node) {
		if cap(at.Kids) > 0 {
			from := uintptr(unsafe.Pointer(unsafe.SliceData(at.Kids)))
			l = append(l, area{from, from + uintptr(cap(at.Kids))*unsafe.Sizeof(n)})
		}
	})
	return l
}

// R3: no two lists of a tree have memory in common, nor have two trees.
func TestTreesAreNew(t *testing.T) {
	for _, text := range samples() {
		one, two := lists(parsed(t, text)), lists(parsed(t, text))
		for i, x := range one {
			if slices.ContainsFunc(one[i+1:], x.meets) {
				t.Errorf("Parse(%q): two lists share memory", brief(text))
			}
			if slices.ContainsFunc(two, x.meets) {
				t.Errorf("Parse(%q), twice: both share memory", brief(text))
			}
		}
	}
}

// spoil writes into everything that a tree has, and into spare capacity.
func spoil(n *api.Node) {
	n.Kids = n.Kids[:cap(n.Kids)]
	for i := range n.Kids {
		spoil(&n.Kids[i])
	}
	*n = api.Node{Kind: 99, Token: api.Token{Kind: 99, Text: "spoilt"}, Kids: n.Kids}
}

// R3: nothing stands in spare capacity, and what is written into a tree no other one shows.
func TestSpoiltTrees(t *testing.T) {
	for _, text := range samples() {
		one, two := parsed(t, text), parsed(t, text)
		eachNode(&one, func(at *api.Node) {
			for _, x := range at.Kids[len(at.Kids):cap(at.Kids)] {
				if !green.Same(x, api.Node{}) {
					t.Errorf("Parse(%q): %s stands in spare capacity", brief(text), told(x))
				}
			}
		})
		spoil(&one)
		same(t, text, two, modelTree(t, text))
		same(t, text, parsed(t, text), two)
	}
	for _, text := range samples() {
		holds(t, text)
	}
}

// R3: a text is not kept: it may be a part of a far longer one.
func TestTextsAreNew(t *testing.T) {
	for _, x := range samples() {
		text := strings.Clone(x + " let y = (1")
		n := parsed(t, text)
		eachNode(&n, func(at *api.Node) {
			if at.Token.Text != "" && textArea(at.Token.Text).meets(textArea(text)) {
				t.Errorf("Parse(%q): %q is a part of it", brief(text), at.Token.Text)
			}
		})
	}
}

// R3: Good changes nothing, and does not read beyond the length of a list.
func TestGoodChangesNothing(t *testing.T) {
	for _, text := range samples() {
		n := parsed(t, text)
		want := parse.Good(n)
		eachNode(&n, func(at *api.Node) {
			at.Kids = append(slices.Clip(at.Kids), wrongs()...)[:len(at.Kids)]
		})
		before, spare := told(n), spareOf(n)
		good(t, n, want)
		if told(n) != before || spareOf(n) != spare {
			t.Errorf("Good(%s) has changed it: %s", before, told(n))
		}
	}
	kids := []api.Node{token(api.Name, "x"), missing("expr"), token(api.Bad, "$")}
	for size, want := range []bool{true, true, false, false} {
		good(t, node(api.Doc, kids[:size]...), want)
		good(t, token(api.Name, "x"), true)
		good(t, api.Node{Kind: api.Leaf, Kids: kids[:size]}, want)
	}
	if told(node(api.Doc, kids...)) != "{Doc x ?expr $}" {
		t.Errorf("Good has changed a list: %s", told(node(api.Doc, kids...)))
	}
}

// spareOf is what stands in the spare capacity of a tree's lists.
func spareOf(n api.Node) string {
	var b strings.Builder
	eachNode(&n, func(at *api.Node) {
		for _, x := range at.Kids[len(at.Kids):cap(at.Kids)] {
			b.WriteString(told(x))
		}
	})
	return b.String()
}

// R6: lists that are empty, and none, are the same.
func TestEmptyLists(t *testing.T) {
	for _, n := range append(rights(), wrongs()...) {
		if len(n.Kids) > 0 {
			continue
		}
		n.Kids = []api.Node{}
		good(t, n, modelGood(n))
		good(t, node(api.Doc, n, n), modelGood(n))
	}
}

// R2: a result depends on the text alone: not on what was asked before, nor on what is asked at the same time.
func TestAtOnce(t *testing.T) {
	var want []string
	for _, text := range samples() {
		want = append(want, told(parsed(t, text)))
	}
	var all sync.WaitGroup
	for i := range 8 {
		all.Go(func() {
			for k := range 200 {
				at := (i + k) % len(want)
				n, e := parse.Parse(samples()[at])
				if e != api.OK || told(n) != want[at] || parse.Good(n) != modelGood(n) {
					t.Errorf("Parse(%q), at once with others: %s, not %s", samples()[at], told(n), want[at])
				}
			}
		})
	}
	all.Wait()
}
