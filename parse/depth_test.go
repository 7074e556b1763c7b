package parse_test

import (
	"math/rand/v2"
	"regexp"
	"slices"
	"strings"
	"testing"
)

// P12.1: depths: MaxNest, one less and one more, by each thing that makes something one deeper.

// wrap is what stands around a part that is one deeper, in the text and in the tree, where what is as deep as the part has a ' before it.
type wrap struct{ before, after, made, end string }

// around: a part within wraps, the first one outermost; of these so many may be around what is not too deep.
func around(l []wrap, most int, part, made string) (text, tree string) {
	text, tree = part, made
	for i, w := range slices.Backward(l) {
		beside := "$1"
		if i >= most {
			beside = "{Skipped $1}"
		}
		text = w.before + " " + text + " " + w.after
		tree = marked.ReplaceAllString(w.made, beside) + " " + tree + marked.ReplaceAllString(w.end, beside)
	}
	return text, tree
}

var marked = regexp.MustCompile("'([a-z_])")

// times is a wrap within itself, so many times.
func (w wrap) times(n int) []wrap {
	var l []wrap
	for range n {
		l = append(l, w)
	}
	return l
}

// bracketed: what is in the wrap stands alone in brackets, which may be empty.
func (w wrap) bracketed() bool {
	return strings.HasSuffix(w.before, "(") || strings.HasSuffix(w.before, "[")
}

// operands are wraps that may stand where an operand must be.
var operands = []wrap{
	{"(", ")", "{Round (", " )}"},
	{"( a ,", ")", "{Round ( 'a ,", " )}"},
	{"(", ", a )", "{Round (", " , 'a )}"},
	{"[", "]", "{List [", " ]}"},
	{"[ a ;", "; b ]", "{List [ 'a ;", " ; 'b ]}"},
	{"f (", ")", "{Apply f {Round (", " )}}"},
	{"[", "] a", "{Apply {List [", " ]} a}"},
}

// signed have an operand in them.
var signed = []wrap{
	{"-", "", "{Unary -", "}"},
	{"-.", "", "{Unary -.", "}"},
}

// whole are wraps that may stand where an expression may be.
var whole = []wrap{
	{"a + [", "]", "{Binary a + {List [", " ]}}"},
	{"a :: b :: (", ")", "{Binary a :: {Binary b :: {Round (", " )}}}"},
	{"(", ") * a", "{Binary {Round (", " )} * a}"},
	{"let a = b in", "", "{LetIn let a = 'b in", "}"},
	{"let f a b =", "in c", "{LetIn let f a b =", " in 'c}"},
	{"let rec f =", "in c", "{LetIn let rec f =", " in 'c}"},
	{"fun a b ->", "", "{Lambda fun a b ->", "}"},
	{"if", "then a else b", "{If if", " then 'a else 'b}"},
	{"if a then", "else b", "{If if 'a then", " else 'b}"},
	{"if a then b else", "", "{If if 'a then 'b else", "}"},
	{"match", "with a -> b | c -> d", "{Match match", " with {Arm 'a -> 'b} | {Arm 'c -> 'd}}"},
	{"match a with b ->", "", "{Match match 'a with {Arm 'b ->", "}}"},
	{"match a with | b -> c | d ->", "", "{Match match 'a with | {Arm 'b -> 'c} | {Arm 'd ->", "}}"},
}

func expressionWraps() []wrap {
	return slices.Concat(operands, signed, whole)
}

// givesWrapped: a declaration's body is a part within wraps.
func givesWrapped(t *testing.T, l []wrap, part, made string) {
	t.Helper()
	text, tree := around(l, 63, part, made)
	givesBody(t, text, tree)
	good(t, parsed(t, "let x = "+text), !strings.ContainsAny(made, "?S"))
}

// An expression of a document's binding has depth 1, so that 63 may be around the deepest one.
func TestDepthOfExpressions(t *testing.T) {
	t.Parallel()
	for _, w := range expressionWraps() {
		for _, n := range []int{1, 2, 61, 62, 63} {
			for _, x := range [][2]string{{"x", "x"}, {"1.5", "1.5"}, {"()", "{Round ( )}"}, {"f []", "{Apply f {List [ ]}}"}} {
				givesWrapped(t, w.times(n), x[0], x[1])
			}
			if !w.bracketed() {
				givesWrapped(t, w.times(n), "", "?expr")
			}
		}
		for _, x := range []string{"x", "1", "1.5", "\"a\"", "true", ";", "::", "_", "rec", "mod", "=", ")", "]", "let", "$"} {
			if !w.bracketed() || x != ")" && x != "]" {
				givesWrapped(t, w.times(64), x, "{Skipped "+x+"}")
			}
		}
		if w.after == "" {
			givesWrapped(t, w.times(64), "", "?expr")
		}
		for _, n := range []int{64, 65, 66, 100, 200} {
			for _, x := range []string{"", "x", "x y + z", ")", "let y = 1", "fun a -> b"} {
				text, _ := around(w.times(n), 63, x, "")
				holds(t, "let x = "+text)
				holds(t, "let x = "+strings.Repeat(w.before+" ", n)+x)
				holds(t, "let x = "+text+" let y = "+text)
			}
		}
	}
}

// drawnWraps are any wraps within one another; what must be an operand is one.
func drawnWraps(r *rand.Rand, n int) []wrap {
	var l []wrap
	inSigned := false
	for range n {
		choice := expressionWraps()
		if inSigned {
			choice = choice[:len(operands)+len(signed)]
		}
		at := r.IntN(len(choice))
		l = append(l, choice[at])
		inSigned = at >= len(operands) && at < len(operands)+len(signed)
	}
	return l
}

func TestDepthOfDrawnExpressions(t *testing.T) {
	t.Parallel()
	r := source()
	for range 300 {
		givesWrapped(t, drawnWraps(r, r.IntN(64)), "x", "x")
		givesWrapped(t, drawnWraps(r, 63), "x", "x")
		givesWrapped(t, drawnWraps(r, 64), "x", "{Skipped x}")
		text, _ := around(drawnWraps(r, 65+r.IntN(20)), 63, "x", "")
		holds(t, "let x = "+text)
	}
}

// Whatever is next where it is too deep is skipped, and just this one token; what holds it goes on behind it.
func TestTooDeep(t *testing.T) {
	const open, made = "( ", "{Round ( "
	opens, mades := strings.Repeat(open, 63), strings.Repeat(made, 63)
	for _, x := range []string{"(", "[", "fun", "if", "match", "let", "-", "-.", "$", ",", ")", "]", "in", "then", "|", "x"} {
		skipped := "{Skipped " + x + "}"
		if x != ")" {
			givesBody(t, opens+open+x+strings.Repeat(" )", 64), mades+made+skipped+strings.Repeat(" )}", 64))
			givesBody(t, opens+open+x, mades+made+skipped+strings.Repeat(" ?)}", 64))
			givesBody(t, opens+open+x+" , "+x+strings.Repeat(" )", 64), mades+made+skipped+" , "+skipped+strings.Repeat(" )}", 64))
			givesBody(t, opens+open+x+" + y", mades+"{Binary "+made+skipped+" ?)} + y}"+strings.Repeat(" ?)}", 63))
			givesBody(t, opens+open+x+" y z )", mades+"{Apply {Apply "+made+skipped+" ?)} y} z} )}"+strings.Repeat(" ?)}", 62))
		}
		givesBody(t, opens+"if "+x+" then "+x+" else "+x, mades+"{If if "+skipped+" then "+skipped+" else "+skipped+"}"+strings.Repeat(" ?)}", 63))
		if x != "|" {
			givesBody(t, opens+"match "+x+" with "+x+" -> "+x+" | "+x+" -> "+x, mades+"{Match match "+skipped+" with {Arm "+skipped+" -> "+skipped+"} | {Arm "+skipped+" -> "+skipped+"}}"+strings.Repeat(" ?)}", 63))
		}
		givesBody(t, opens+"let a = "+x+" in "+x+" )", mades+"{LetIn let a = "+skipped+" in "+skipped+"} )}"+strings.Repeat(" ?)}", 62))
		givesBody(t, opens+"fun a -> "+x+" * b )", mades[:62*len(made)]+"{Binary "+made+"{Lambda fun a -> "+skipped+"} ?)} * b} )}"+strings.Repeat(" ?)}", 61))
		givesBody(t, opens+"- "+x+" * b )", mades+"{Binary {Unary - "+skipped+"} * b} )}"+strings.Repeat(" ?)}", 62))
	}
	// Where the end is next all is missing.
	givesBody(t, opens+open, mades+made+"?expr"+strings.Repeat(" ?)}", 64))
	givesBody(t, opens+"-", mades+"{Unary - ?expr}"+strings.Repeat(" ?)}", 63))
	givesBody(t, opens+"if", mades+"{If if ?expr ?then ?expr ?else ?expr}"+strings.Repeat(" ?)}", 63))
	givesBody(t, opens+"match", mades+"{Match match ?expr ?with {Arm ?pattern ?-> ?expr}}"+strings.Repeat(" ?)}", 63))
	givesBody(t, opens+"fun (", mades+"{Lambda fun {PRound ( ?pattern ?)} ?-> ?expr}"+strings.Repeat(" ?)}", 63))
	// Empty brackets have nothing in them that could be too deep.
	givesBody(t, opens+"()", mades+"{Round ( )}"+strings.Repeat(" ?)}", 63))
	givesBody(t, opens+"fun [] ->", mades+"{Lambda fun {PList [ ]} -> ?expr}"+strings.Repeat(" ?)}", 63))
}

// patternWraps have a pattern one deeper than they are; the last one is no pattern atom.
var patternWraps = []wrap{
	{"(", ")", "{PRound (", " )}"},
	{"( a ,", ", b )", "{PRound ( 'a ,", " , 'b )}"},
	{"[", "]", "{PList [", " ]}"},
	{"[ _ ;", "]", "{PList [ '_ ;", " ]}"},
	{"a ::", "", "{PCons a ::", "}"},
}

// patternPlace is where a pattern stands, and how many wraps may be around the deepest one in it.
type patternPlace struct {
	wrap
	most  int
	whole bool // not just a pattern atom
}

var patternPlaces = []patternPlace{
	{wrap{"let", "= 1", "{Decl let", " = 1}"}, 64, false},
	{wrap{"let rec", "= 1", "{Decl let rec", " = 1}"}, 64, false},
	{wrap{"let f", "= 1", "{Decl let f", " = 1}"}, 64, false},
	{wrap{"let f a", "b = 1", "{Decl let f a", " b = 1}"}, 64, false},
	{wrap{"let (", ") = 1", "{Decl let {PRound (", " )} = 1}"}, 63, true},
	{wrap{"let f (", ") = 1", "{Decl let f {PRound (", " )} = 1}"}, 63, true},
	{wrap{"let x = fun", "-> 1", "{Decl let x = {Lambda fun", " -> 1}}"}, 63, false},
	{wrap{"let x = fun a", "b -> 1", "{Decl let x = {Lambda fun a", " b -> 1}}"}, 63, false},
	{wrap{"let x = let", "= 1 in 2", "{Decl let x = {LetIn let", " = 1 in 2}}"}, 63, false},
	{wrap{"let x = let f a", "= 1 in 2", "{Decl let x = {LetIn let f a", " = 1 in 2}}"}, 63, false},
	{wrap{"let x = match a with", "-> 1", "{Decl let x = {Match match a with {Arm", " -> 1}}}"}, 62, true},
	{wrap{"let x = match a with | b -> c |", "-> 1 | d -> e", "{Decl let x = {Match match a with | {Arm b -> c} | {Arm", " -> 1} | {Arm d -> e}}}"}, 62, true},
	{wrap{"let x = (fun", "-> 1)", "{Decl let x = {Round ( {Lambda fun", " -> 1} )}}"}, 62, false},
	{wrap{"let x = - (fun", "-> 1)", "{Decl let x = {Unary - {Round ( {Lambda fun", " -> 1} )}}}"}, 61, false},
	{wrap{"let x = match a with b -> match c with", "-> 1", "{Decl let x = {Match match a with {Arm b -> {Match match c with {Arm", " -> 1}}}}}"}, 61, true},
}

func TestDepthOfPatterns(t *testing.T) {
	t.Parallel()
	for _, p := range patternPlaces {
		for _, w := range patternWraps {
			if !p.whole && w.after == "" {
				continue
			}
			for _, n := range []int{0, 1, p.most - 1, p.most, p.most + 1} {
				made := "x"
				if n > p.most {
					made = "{Skipped x}"
				}
				text, tree := around(w.times(n), p.most, "x", made)
				gives(t, p.before+" "+text+" "+p.after, "{Doc "+p.made+" "+tree+p.end+" EOF}")
				good(t, parsed(t, p.before+" "+text+" "+p.after), n <= p.most)
			}
			for _, n := range []int{p.most - 1, p.most, p.most + 1, p.most + 2, 100} {
				for _, x := range []string{"", "x", "x y", "x :: y", "-", "let y = 1"} {
					text, _ := around(w.times(n), p.most, x, "")
					holds(t, p.before+" "+text+" "+p.after)
					holds(t, p.before+" "+strings.Repeat(w.before+" ", n)+x)
				}
			}
		}
	}
}

// Any token is skipped where a pattern is too deep; where the end is next, it is missing.
func TestPatternsTooDeep(t *testing.T) {
	const open, made = "( ", "{PRound ( "
	opens, mades := strings.Repeat(open, 64), strings.Repeat(made, 64)
	for _, x := range []string{"(", "[", "x", "1.5", "=", ",", "::", "->", "let", "-", "$", "fun"} {
		skipped := "{Skipped " + x + "}"
		gives(t, "let "+opens+open+x+strings.Repeat(" )", 65)+" = 1", "{Doc {Decl let "+mades+made+skipped+strings.Repeat(" )}", 65)+" = 1} EOF}")
		gives(t, "let "+opens+open+x+" , "+x+" )", "{Doc {Decl let "+mades+made+skipped+" , "+skipped+" )}"+strings.Repeat(" ?)}", 64)+" ?= ?expr} EOF}")
		gives(t, "let "+opens+open+x+" :: "+x, "{Doc {Decl let "+mades+"{PCons "+made+skipped+" ?)} :: "+skipped+"}"+strings.Repeat(" ?)}", 64)+" ?= ?expr} EOF}")
		gives(t, "let "+opens+"a :: "+x+" )", "{Doc {Decl let "+mades+"{PCons a :: "+skipped+"} )}"+strings.Repeat(" ?)}", 63)+" ?= ?expr} EOF}")
	}
	gives(t, "let "+opens+open, "{Doc {Decl let "+mades+made+"?pattern"+strings.Repeat(" ?)}", 65)+" ?= ?expr} EOF}")
	gives(t, "let "+opens+"a ::", "{Doc {Decl let "+mades+"{PCons a :: ?pattern}"+strings.Repeat(" ?)}", 64)+" ?= ?expr} EOF}")
	gives(t, "let "+opens+"() = 1", "{Doc {Decl let "+mades+"{PRound ( )}"+strings.Repeat(" ?)}", 64)+" = 1} EOF}")
}

// What stands beside something deep, or behind it, is as deep as if it were not there.
func TestDepthOfOthers(t *testing.T) {
	deep, made := around(operands[0].times(62), 64, "x", "x")
	tooDeep, madeTooDeep := around(operands[0].times(63), 64, "x", "{Skipped x}")
	for _, x := range [][2]string{{deep, made}, {tooDeep, madeTooDeep}} {
		givesBody(t, "[ "+x[0]+" ; "+x[0]+" ; "+deep+" ]", "{List [ "+x[1]+" ; "+x[1]+" ; "+made+" ]}")
		givesBody(t, "f ( "+x[0]+" ) ( "+x[0]+" , "+deep+" )", "{Apply {Apply f {Round ( "+x[1]+" )}} {Round ( "+x[1]+" , "+made+" )}}")
		givesBody(t, "if "+x[0]+" then "+x[0]+" else "+deep, "{If if "+x[1]+" then "+x[1]+" else "+made+"}")
		givesBody(t, "let a = "+x[0]+" in "+deep, "{LetIn let a = "+x[1]+" in "+made+"}")
		givesBody(t, "- "+x[0]+" + - "+deep, "{Binary {Unary - "+x[1]+"} + {Unary - "+made+"}}")
		givesBody(t, "match "+x[0]+" with a -> "+x[0]+strings.Repeat(" | b -> "+deep, 100), "{Match match "+x[1]+" with {Arm a -> "+x[1]+"}"+strings.Repeat(" | {Arm b -> "+made+"}", 100)+"}")
		gives(t, strings.Repeat("let x = ( "+x[0]+" ) ", 100), "{Doc "+strings.Repeat("{Decl let x = {Round ( "+x[1]+" )}} ", 100)+"EOF}")
	}
	pattern, madePattern := around(patternWraps[0].times(63), 64, "x", "x")
	tooDeep, madeTooDeep = around(patternWraps[0].times(64), 64, "x", "{Skipped x}")
	for _, x := range [][2]string{{pattern, madePattern}, {tooDeep, madeTooDeep}} {
		gives(t, "let f ( "+x[0]+" , "+pattern+" ) [ "+x[0]+" ; "+pattern+" ] = "+deep, "{Doc {Decl let f {PRound ( "+x[1]+" , "+madePattern+" )} {PList [ "+x[1]+" ; "+madePattern+" ]} = "+made+"} EOF}")
	}
}

// What makes nothing deeper: operators, applications, arms, parameters and elements, as many as there are.
func TestNotDeeper(t *testing.T) {
	for _, x := range []string{
		"a ^ b ^ c ^ d :: e :: f || g && h = i + j * k l m", "a - b - c -. d -. e", "f a b c d () []", "a || b || c || d && e && f", "1 + 2 * 3 mod 4",
	} {
		body := shown(parsed(t, "let x = "+x))
		body = strings.TrimSuffix(strings.TrimPrefix(body, "{Doc {Decl let x = "), "} EOF}")
		givesWrapped(t, operands[0].times(63), x, body)
	}
	for _, l := range levels() {
		for _, operator := range l.operators {
			text, tree := around(operands[0].times(62), 64, "x", "x")
			if l.right {
				tree = strings.Repeat("{Binary y "+operator+" ", 200) + tree + strings.Repeat("}", 200)
				givesBody(t, strings.Repeat("y "+operator+" ", 200)+text, tree)
			} else {
				tree = strings.Repeat("{Binary ", 200) + tree + strings.Repeat(" "+operator+" y}", 200)
				givesBody(t, text+strings.Repeat(" "+operator+" y", 200), tree)
			}
		}
	}
	text, tree := around(operands[0].times(63), 64, "x", "x")
	givesBody(t, text+strings.Repeat(" "+text, 100), strings.Repeat("{Apply ", 100)+tree+strings.Repeat(" "+tree+"}", 100))
	givesBody(t, "fun"+strings.Repeat(" a", 200)+" -> x", "{Lambda fun"+strings.Repeat(" a", 200)+" -> x}")
	givesBody(t, "[x"+strings.Repeat(" ; y", 200)+" ]", "{List [ x"+strings.Repeat(" ; y", 200)+" ]}")
}
