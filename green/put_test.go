package green_test

import (
	"slices"
	"testing"

	"rostrum/api"
	"rostrum/green"
)

// P11.2, P11.5: Put at each path of the chapter's tree, by hand.
func TestPut(t *testing.T) {
	for _, x := range []struct {
		path []int
		m    api.Node
		want api.Node
		text string
		e    api.Errno // of Check
	}{
		{nil, name("y"), name("y"), "y", api.OK},
		{[]int{}, example(), example(), "let x\n", api.OK},
		{nil, api.Node{}, api.Node{}, "", api.ErrForm},
		{[]int{0}, name("y"), doc(name("y"), name("x", blank(" ")), missing("="), end(blank("\n"))), "y x\n", api.OK},
		{[]int{1}, name("yy", blank("  ")), doc(leaf(api.Word, "let"), name("yy", blank("  ")), missing("="), end(blank("\n"))), "let  yy\n", api.OK},
		{[]int{1}, name("x"), doc(leaf(api.Word, "let"), name("x"), missing("="), end(blank("\n"))), "letx\n", api.ErrForm},
		{[]int{1, 0}, remark("(**)"), doc(leaf(api.Word, "let"), name("x", remark("(**)")), missing("="), end(blank("\n"))), "let(**)x\n", api.OK},
		{[]int{1, 0}, example(), doc(leaf(api.Word, "let"), name("x", example()), missing("="), end(blank("\n"))), "letlet x\nx\n", api.ErrForm},
		{[]int{2}, sign("=", blank(" ")), doc(leaf(api.Word, "let"), name("x", blank(" ")), sign("=", blank(" ")), end(blank("\n"))), "let x =\n", api.OK},
		{[]int{3}, node(api.Round), doc(leaf(api.Word, "let"), name("x", blank(" ")), missing("="), node(api.Round)), "let x", api.OK},
		{[]int{3, 0}, blank(" "), doc(leaf(api.Word, "let"), name("x", blank(" ")), missing("="), end(blank(" "))), "let x ", api.OK},
		{[]int{3}, api.Node{Kind: 77, Kids: []api.Node{sign("+")}}, doc(leaf(api.Word, "let"), name("x", blank(" ")), missing("="), api.Node{Kind: 77, Kids: []api.Node{sign("+")}}), "let x+", api.ErrForm},
	} {
		n := example()
		got, e := green.Put(n, x.path, x.m)
		if e != api.OK || told(got) != told(x.want) || green.Text(got) != x.text {
			t.Errorf("Put(%v, %s): %s, %v, not %s", x.path, brief(x.m), brief(got), e, brief(x.want))
		}
		check(t, got, x.e)
		if !green.Same(n, example()) {
			t.Errorf("Put(%v, %s): the tree was changed: %s", x.path, brief(x.m), brief(n))
		}
	}
	for _, path := range [][]int{{4}, {-1}, {0, 0}, {1, 1}, {1, 0, 0}, {2, 0}, {3, 1}, {3, -1}} {
		leadsNowhere(t, example(), path)
	}
}

// P11.2, P11.5: the tree itself, and parts of it, put in places of it.
func TestPutOfItself(t *testing.T) {
	r := source()
	for _, n := range []api.Node{example(), treeOf(t, r, "let f x = (x, 1.5) (* a *)\n"), anyTree(r, 3), name("x", blank(" ")), missing("x"), {}} {
		spots := modelOf(n).spots
		for _, s := range spots {
			puts(t, n, s, n)
			for _, other := range spots {
				puts(t, n, s, other.node)
			}
		}
	}
}

// P11.5: what was there, put there again, gives the same tree.
func TestPutOfWhatWasThere(t *testing.T) {
	r := source()
	for _, text := range documents() {
		n := treeOf(t, r, text)
		for _, s := range modelOf(n).spots {
			there, e := green.At(n, s.path)
			got, e2 := green.Put(n, s.path, there)
			if e != api.OK || e2 != api.OK || !green.Same(got, n) || told(got) != told(n) {
				t.Fatalf("Put(%s, %v, %s): %s, %v, %v", brief(n), s.path, brief(there), brief(got), e, e2)
			}
		}
	}
}

// R2: trees do not affect one another: of two that came from one by Put each has what was put there.
func TestPutTwice(t *testing.T) {
	n := example()
	one, _ := green.Put(n, []int{1}, name("y"))
	two, _ := green.Put(n, []int{1}, name("z"))
	three, _ := green.Put(one, []int{0}, sign("("))
	for _, x := range []struct {
		n    api.Node
		text string
	}{{n, "let x\n"}, {one, "lety\n"}, {two, "letz\n"}, {three, "(y\n"}} {
		if got := green.Text(x.n); got != x.text {
			t.Errorf("%s: %q, not %q", brief(x.n), got, x.text)
		}
	}
	row := []int{3, 0}
	four, _ := green.Put(n, row[:1], sign(")"))
	if green.Text(four) != "let x)" || !slices.Equal(row, []int{3, 0}) {
		t.Errorf("Put: %s, %v", brief(four), row)
	}
}
