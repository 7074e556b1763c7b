package parse_test

import (
	"math/rand/v2"
	"os"
	"runtime/debug"
	"strconv"
	"strings"
	"testing"

	"rostrum/api"
	"rostrum/green"
	"rostrum/lex"
	"rostrum/parse"
)

// Trees as texts, and trees by hand.

// TestMain lets memory grow further than usual before it is cleared: there are many trees, and none is kept.
func TestMain(m *testing.M) {
	debug.SetGCPercent(800)
	os.Exit(m.Run())
}

// kindNames are how the Kinds are told.
var kindNames = map[uint8]string{
	api.Skipped: "Skipped", api.Doc: "Doc", api.Decl: "Decl", api.LetIn: "LetIn", api.Lambda: "Lambda", api.If: "If", api.Match: "Match", api.Arm: "Arm", api.Binary: "Binary",
	api.Unary: "Unary", api.Apply: "Apply", api.Round: "Round", api.List: "List", api.PCons: "PCons", api.PRound: "PRound", api.PList: "PList",
}

// shown is a tree without its blanks and remarks: {Doc {Decl let x ?= ?expr} EOF}. What is missing has a ? before it.
func shown(n api.Node) string {
	var b strings.Builder
	show(&b, n, false)
	return b.String()
}

// told is a tree with its blanks and remarks, each one quoted and in < > before what it stands before.
func told(n api.Node) string {
	var b strings.Builder
	show(&b, n, true)
	return b.String()
}

func show(b *strings.Builder, n api.Node, all bool) {
	switch {
	case n.Kind == api.Leaf && all:
		for _, kid := range n.Kids {
			b.WriteString("<" + strconv.Quote(kid.Token.Text) + ">")
		}
		fallthrough
	case n.Kind == api.Leaf:
		if n.Token == (api.Token{}) {
			b.WriteString("EOF")
		}
		b.WriteString(n.Token.Text)
		return
	case n.Kind == api.Missing && n.Token.Kind == 0 && len(n.Kids) == 0:
		b.WriteString("?" + n.Token.Text)
		return
	case kindNames[n.Kind] == "":
		b.WriteString("{Kind " + strconv.Itoa(int(n.Kind)))
	default:
		b.WriteString("{" + kindNames[n.Kind])
	}
	if n.Token != (api.Token{}) {
		b.WriteString(" Token " + strconv.Itoa(int(n.Token.Kind)) + " " + strconv.Quote(n.Token.Text))
	}
	for _, kid := range n.Kids {
		b.WriteString(" ")
		show(b, kid, all)
	}
	b.WriteString("}")
}

// brief is a text as it is told, cut where it is long.
func brief(s string) string {
	if len(s) > 400 {
		return s[:250] + " .. " + s[len(s)-100:] + " (" + strconv.Itoa(len(s)) + " bytes)"
	}
	return s
}

// parsed is a text's tree.
func parsed(t *testing.T, text string) api.Node {
	t.Helper()
	n, e := parse.Parse(text)
	if e != api.OK {
		t.Fatalf("Parse(%q): %v", brief(text), e)
	}
	return n
}

// gives: a text's tree is this one, without blanks and remarks; and all that is promised of a text holds.
func gives(t *testing.T, text, want string) {
	t.Helper()
	if got := shown(holds(t, text)); got != want {
		t.Errorf("Parse(%q):\n%s, not\n%s", brief(text), brief(got), brief(want))
	}
}

// givesBody: what is bound in a declaration has this tree, and nothing follows the declaration.
func givesBody(t *testing.T, body, want string) {
	t.Helper()
	gives(t, "let x = "+body, "{Doc {Decl let x = "+want+"} EOF}")
}

// givesPattern: what is bound in a declaration is this.
func givesPattern(t *testing.T, pattern, want string) {
	t.Helper()
	gives(t, "let "+pattern+" = 1", "{Doc {Decl let "+want+" = 1} EOF}")
}

// givesArm: an arm's pattern is this.
func givesArm(t *testing.T, pattern, want string) {
	t.Helper()
	givesBody(t, "match y with "+pattern+" -> 1", "{Match match y with {Arm "+want+" -> 1}}")
}

// leafOf is the Leaf of a token, by its text.
func leafOf(text string, before ...api.Node) api.Node {
	n := api.Node{Kind: api.Leaf, Kids: before}
	if text != "" {
		x, e := lex.One(text)
		if e != api.OK {
			panic("no token: " + text)
		}
		n.Token = x
	}
	return n
}

func node(kind uint8, kids ...api.Node) api.Node { return api.Node{Kind: kind, Kids: kids} }

func missing(what string) api.Node {
	return api.Node{Kind: api.Missing, Token: api.Token{Text: what}}
}

// bare is a tree without the blanks and remarks in it.
func bare(n api.Node) api.Node {
	c := api.Node{Kind: n.Kind, Token: n.Token}
	if n.Kind == api.Leaf {
		return c
	}
	for _, kid := range n.Kids {
		c.Kids = append(c.Kids, bare(kid))
	}
	return c
}

// same: two trees are the same.
func same(t *testing.T, what string, got, want api.Node) {
	t.Helper()
	if !green.Same(got, want) {
		t.Fatalf("%s:\n%s, not\n%s", what, brief(told(got)), brief(told(want)))
	}
}

// source makes the same numbers in every run.
func source() *rand.Rand { return rand.New(rand.NewPCG(12, 2026)) }

// oneOf is one of some, drawn.
func oneOf[E any](r *rand.Rand, l []E) E { return l[r.IntN(len(l))] }
