package parse_test

import (
	"math/rand/v2"
	"slices"
	"strings"
	"testing"

	"rostrum/api"
	"rostrum/green"
	"rostrum/lex"
)

// vocabulary has a token of each sort that the chapter's table tells apart, and some more.
var vocabulary = strings.Fields(`let rec in fun if then else match with true false mod x f' 1 1.5 "a" ( ) [ ] , ; | _ -> :: = < @ ^ + - -. * && || $ "\q" 1.0e24`)

// contexts are beginnings of texts, each with another thing that is made next.
var contexts = []string{
	"let x = 1", "let x = f a", "let x = -", "let x = 1 +", "let x = 1 ::", "let x = 1 || 2 *", "let x = (", "let x = (1", "let x = (1,", "let x = [", "let x = [1", "let x = [1;", "let x = f (", "let x = ()",
	"let rec", "let f", "let f a", "let _", "let (", "let (a", "let (a,", "let (a ::", "let [", "let [a;", "let f (", "let x = let", "let x = let rec", "let x = let f", "let x = let f =", "let x = let a = 1", "let x = let a = 1 in",
	"let x = fun", "let x = fun a", "let x = fun a ->", "let x = if", "let x = if a", "let x = if a then", "let x = if a then b", "let x = if a then b else", "let x = match", "let x = match a", "let x = match a with", "let x = match a with |",
	"let x = match a with b", "let x = match a with b ::", "let x = match a with b ->", "let x = match a with b -> c", "let x = match a with b -> c |", "let x = (fun a ->", "let x = [if a then", "let x = 1 )", "let x = $", "$",
}

// eachRow visits all rows of so many words.
func eachRow(size int, visit func(row string)) {
	if size == 0 {
		visit("")
		return
	}
	eachRow(size-1, func(row string) {
		for _, x := range vocabulary {
			visit(row + " " + x)
		}
	})
}

// P12.1, P12.2: all rows of three words at the three beginnings of most variety, and of two at the others.
func TestAllRows(t *testing.T) {
	t.Parallel()
	for _, x := range []string{"", "let", "let x ="} {
		for size := range 4 {
			eachRow(size, func(row string) { holds(t, x+row) })
		}
	}
	for _, x := range contexts {
		for size := range 3 {
			eachRow(size, func(row string) { holds(t, x+row) })
		}
	}
}

// someRow: words in any order, with blanks and remarks in between, or nothing.
func someRow(r *rand.Rand, most int) string {
	var b strings.Builder
	for range r.IntN(most) {
		b.WriteString(strings.Join(oneOf(r, spaces()), ""))
		b.WriteString(oneOf(r, vocabulary))
	}
	b.WriteString(strings.Join(oneOf(r, spaces()), ""))
	return b.String()
}

// P12.1, P12.2: words in any order.
func TestDrawnRows(t *testing.T) {
	t.Parallel()
	r := source()
	for range 6000 {
		holds(t, oneOf(r, append(contexts, "", "let", "let x ="))+" "+someRow(r, 12))
		holds(t, someRow(r, 50))
	}
	for range 10 {
		holds(t, someRow(r, 8000))
	}
}

// made is a drawn document that is well-formed, and its tree.
func made(t *testing.T, r *rand.Rand, parts int) (string, api.Node) {
	t.Helper()
	m := maker{Rand: r, left: parts}
	n := dressed(r, m.document())
	if e := green.Check(n); e != api.OK {
		t.Fatalf("a tree that is drawn is none: %s", told(n))
	}
	return green.Text(n), n
}

// P12.1, P12.2: documents that are well-formed have the tree that the grammar gives them.
func TestWellFormed(t *testing.T) {
	t.Parallel()
	r := source()
	for range 3000 {
		text, n := made(t, r, 10+r.IntN(100))
		if len(text) > api.MaxText {
			continue
		}
		got := holds(t, text)
		same(t, text, got, n)
		good(t, got, true)
	}
}

// P12.1, P12.2: documents that were well-formed before one token, or some, were taken out, put in or moved.
func TestSpoilt(t *testing.T) {
	t.Parallel()
	r := source()
	wrong := 0
	for range 6000 {
		_, n := made(t, r, 30)
		l := green.Tokens(bare(n))
		for range 1 + r.IntN(3) {
			at := r.IntN(len(l) + 1)
			x, _ := lex.One(oneOf(r, vocabulary))
			switch {
			case at == len(l) || r.IntN(3) == 0:
				l = slices.Insert(l, at, x)
			case r.IntN(2) == 0:
				l = slices.Delete(l, at, at+1)
			default:
				l[at] = x
			}
		}
		var words []string
		for _, x := range l {
			words = append(words, x.Text)
		}
		if !modelGood(holds(t, strings.Join(words, " "))) {
			wrong++
		}
	}
	if wrong < 2000 || wrong > 5900 {
		t.Errorf("%d of 6000 documents are not well-formed", wrong)
	}
}

// otherBlanks: a text with other blanks, and its tree with these. A line's end stays one behind a Bad token that ends there: without it that token would go on.
func otherBlanks(r *rand.Rand, text string, n api.Node) (string, api.Node) {
	var other strings.Builder
	var blanks []string
	l, _ := lex.Tokens(text)
	for i, x := range l {
		if x.Kind == api.Blank {
			x.Text = oneOf(r, []string{" ", "\n", "\t", "\r", "  ", "\n\n", " \r\n\t", strings.Repeat("\n ", 20)})
			if i > 0 && l[i-1].Kind == api.Bad && strings.HasPrefix(l[i-1].Text, "\"") {
				x.Text = "\n" + x.Text
			}
			blanks = append(blanks, x.Text)
		}
		other.WriteString(x.Text)
	}
	n, _ = green.At(n, nil)
	eachNode(&n, func(at *api.Node) {
		if at.Token.Kind == api.Blank {
			at.Token.Text = blanks[0]
			blanks = blanks[1:]
		}
	})
	return other.String(), n
}

// P12.3: other blanks, where there are some, are all that changes: in documents that are well-formed, and in any others.
func TestOtherBlanks(t *testing.T) {
	t.Parallel()
	r := source()
	for range 2000 {
		wellFormed, _ := made(t, r, 40)
		for _, text := range []string{wellFormed, someRow(r, 40), oneOf(r, contexts) + " " + someRow(r, 10), "let x = \"a\n" + someRow(r, 10), someRow(r, 10) + " \"\\q \r\n" + someRow(r, 5)} {
			other, want := otherBlanks(r, text, parsed(t, text))
			same(t, other, holds(t, other), want)
		}
	}
	for _, x := range []struct{ text, other string }{
		{"let x = 1 ", "let\nx\r\n=  1\n"},
		{"let x=1 let y=2", "let\n\nx=1\nlet\ty=2"},
		{" let x = ( 1 , (* a *) ", "\nlet\nx\n=\n(\n1\n,\n(* a *)\n"},
	} {
		if got, want := shown(holds(t, x.other)), shown(holds(t, x.text)); got != want {
			t.Errorf("Parse(%q): %s, not %s", x.other, got, want)
		}
	}
}

// joined: the tree of one text behind the other: P12.4. What the first one ends with stands before the first token of the other.
func joined(first, second api.Node) api.Node {
	first, _ = green.At(first, nil)
	second, _ = green.At(second, nil)
	last := len(first.Kids) - 1
	before := first.Kids[last].Kids
	var leaves []*api.Node
	eachNode(&second, func(at *api.Node) {
		if at.Kind == api.Leaf && at.Token.Kind != api.Blank && at.Token.Kind != api.Remark {
			leaves = append(leaves, at)
		}
	})
	behind := leaves[0].Kids
	if len(before) > 0 && before[len(before)-1].Token.Kind == api.Blank {
		behind[0].Token.Text = before[len(before)-1].Token.Text + behind[0].Token.Text
		before = before[:len(before)-1]
	}
	leaves[0].Kids = slices.Concat(before, behind)
	return node(api.Doc, slices.Concat(first.Kids[:last], second.Kids)...)
}

// P12.4: a document that is well-formed, and any text that begins with a blank and let behind it.
func TestConcatenation(t *testing.T) {
	t.Parallel()
	r := source()
	for range 2000 {
		one, first := made(t, r, 40)
		wellFormed, _ := made(t, r, 40)
		for _, rest := range []string{" " + someRow(r, 20), " x = " + someRow(r, 20), " x = 1 " + someRow(r, 20), " x = 1 " + wellFormed, ""} {
			two := oneOf(r, []string{" ", "\n", "\t", "\r\n  "}) + "let" + rest
			got := holds(t, one+two)
			same(t, one+two, got, joined(first, parsed(t, two)))
			if got.Kids[len(first.Kids)-1].Kind != api.Decl {
				t.Fatalf("Parse(%q): %s", one+two, told(got))
			}
		}
	}
}

// P12.4: by hand, with what may stand at the end of the first one.
func TestConcatenationByHand(t *testing.T) {
	for _, x := range []struct{ one, want string }{
		{"", ""}, {" ", ""}, {"(* a *)", ""}, {"let x = 1", "{Decl let x = 1} "}, {"let x = 1 ", "{Decl let x = 1} "}, {"let x = 1 (* a *)", "{Decl let x = 1} "}, {"let x = f a", "{Decl let x = {Apply f a}} "},
		{"let x = fun a -> a", "{Decl let x = {Lambda fun a -> a}} "}, {"let x = let a = 1 in a", "{Decl let x = {LetIn let a = 1 in a}} "}, {"let x = if a then b else c", "{Decl let x = {If if a then b else c}} "},
		{"let x = match a with b -> c", "{Decl let x = {Match match a with {Arm b -> c}}} "}, {"let x = - 1", "{Decl let x = {Unary - 1}} "}, {"let x = 1 + 2", "{Decl let x = {Binary 1 + 2}} "}, {"let x = 1 let y = [2]", "{Decl let x = 1} {Decl let y = {List [ 2 ]}} "},
	} {
		gives(t, x.one+" let z = 3", "{Doc "+x.want+"{Decl let z = 3} EOF}")
		gives(t, x.one+"\nlet z", "{Doc "+x.want+"{Decl let z ?= ?expr} EOF}")
		gives(t, x.one+"\nlet = )", "{Doc "+x.want+"{Decl let ?pattern = ?expr} {Skipped )} EOF}")
		gives(t, x.one+"\t\nlet z = let y = 4 (*", "{Doc "+x.want+"{Decl let z = {LetIn let y = {Apply 4 {Skipped (*}} ?in ?expr}} EOF}")
	}
}

// P12.1, P12.2: blanks and remarks before every token, before the end, and before what is missing.
func TestBlanks(t *testing.T) {
	for _, x := range []struct{ text, want string }{
		{"", "{Doc EOF}"},
		{" ", "{Doc <\" \">EOF}"},
		{" (* a *)\n", "{Doc <\" \"><\"(* a *)\"><\"\\n\">EOF}"},
		{"(**)(* b *)", "{Doc <\"(**)\"><\"(* b *)\">EOF}"},
		{" let\tx\n=\r1 ", "{Doc {Decl <\" \">let <\"\\t\">x <\"\\n\">= <\"\\r\">1} <\" \">EOF}"},
		{"(* a *)let(* b *)x(* c *)=(* d *)1(* e *)", "{Doc {Decl <\"(* a *)\">let <\"(* b *)\">x <\"(* c *)\">= <\"(* d *)\">1} <\"(* e *)\">EOF}"},
		{"let x = \n", "{Doc {Decl let <\" \">x <\" \">= ?expr} <\" \\n\">EOF}"},
		{"let x = ( (* a *) ", "{Doc {Decl let <\" \">x <\" \">= {Round <\" \">( ?expr ?)}} <\" \"><\"(* a *)\"><\" \">EOF}"},
		{"let x = f\n(* a *)let y = 1", "{Doc {Decl let <\" \">x <\" \">= <\" \">f} {Decl <\"\\n\"><\"(* a *)\">let <\" \">y <\" \">= <\" \">1} EOF}"},
		{" ) (* a *) ] ", "{Doc {Skipped <\" \">) <\" \"><\"(* a *)\"><\" \">]} <\" \">EOF}"},
		{"let x = 1 $ (* a", "{Doc {Decl let <\" \">x <\" \">= {Apply {Apply <\" \">1 {Skipped <\" \">$}} {Skipped <\" \">(* a}}} EOF}"},
		{"let x = match a with (* b *) -> c", "{Doc {Decl let <\" \">x <\" \">= {Match <\" \">match <\" \">a <\" \">with {Arm ?pattern <\" \"><\"(* b *)\"><\" \">-> <\" \">c}}} EOF}"},
		{"let x = a + (* b *) b", "{Doc {Decl let <\" \">x <\" \">= {Binary <\" \">a <\" \">+ <\" \"><\"(* b *)\"><\" \">b}} EOF}"},
	} {
		if got := told(holds(t, x.text)); got != x.want {
			t.Errorf("Parse(%q):\n%s, not\n%s", x.text, got, x.want)
		}
	}
	// Each leaf has what stands before it, and nothing else; what is made of it has nothing of its own.
	text := "let rec f a (b, [1; _ :: c]) = let x = - 1.5 + f a b in fun y -> if true then match x with | [] -> $ | z -> \"a\" else (x, [y; z]) ) let =("
	l, _ := lex.Tokens(text)
	for _, space := range []string{" ", "\n\t", "(* a *)", " (* a *)\n", "(**)(* (**) *)", " (**) (**) "} {
		var b strings.Builder
		for _, x := range l {
			if x.Kind != api.Blank {
				b.WriteString(space + x.Text)
			}
		}
		b.WriteString(space)
		before, _ := lex.Tokens(space)
		want := parsed(t, text)
		eachNode(&want, func(at *api.Node) {
			if at.Kind == api.Leaf && at.Token.Kind != api.Blank && at.Token.Kind != api.Remark {
				at.Kids = nil
				for _, x := range before {
					at.Kids = append(at.Kids, token(x.Kind, x.Text))
				}
			}
		})
		same(t, b.String(), holds(t, b.String()), want)
	}
}
