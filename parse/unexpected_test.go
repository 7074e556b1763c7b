package parse_test

import (
	"slices"
	"strings"
	"testing"
)

// P12.1: what is made where the end is next, and where something else is next than what may stand there.

// Prefixes of a document, each one a token longer than the one before: what of the tree is made by then, and what is missing behind it.
func TestTheEndIsNext(t *testing.T) {
	text, made := "", "{Doc"
	for _, x := range []struct{ token, makes, missing string }{
		{"let", " {Decl let", " ?pattern ?= ?expr}"},
		{"rec", " rec", " ?pattern ?= ?expr}"},
		{"f", " f", " ?= ?expr}"},
		{"a", " a", " ?= ?expr}"},
		{"(", " {PRound (", " ?pattern ?)} ?= ?expr}"},
		{"b", " b", " ?)} ?= ?expr}"},
		{",", " ,", " ?pattern ?)} ?= ?expr}"},
		{"[", " {PList [", " ?pattern ?]} ?)} ?= ?expr}"},
		{"1", " 1", " ?]} ?)} ?= ?expr}"},
		{";", " ;", " ?pattern ?]} ?)} ?= ?expr}"},
		{"]", " ?pattern ]}", " ?)} ?= ?expr}"},
		{")", " )}", " ?= ?expr}"},
		{"=", " =", " ?expr}"},
		{"let", " {LetIn let", " ?pattern ?= ?expr ?in ?expr}}"},
		{"_", " _", " ?= ?expr ?in ?expr}}"},
		{"=", " =", " ?expr ?in ?expr}}"},
		{"1.5", " 1.5", " ?in ?expr}}"},
		{"in", " in", " ?expr}}"},
		{"fun", " {Lambda fun", " ?pattern ?-> ?expr}}}"},
		{"c", " c", " ?-> ?expr}}}"},
		{"true", " true", " ?-> ?expr}}}"},
		{"->", " ->", " ?expr}}}"},
		{"if", " {If if", " ?expr ?then ?expr ?else ?expr}}}}"},
		{"d", " d", " ?then ?expr ?else ?expr}}}}"},
		{"then", " then", " ?expr ?else ?expr}}}}"},
		{"match", " {Match match", " ?expr ?with {Arm ?pattern ?-> ?expr}} ?else ?expr}}}}"},
		{"e", " e", " ?with {Arm ?pattern ?-> ?expr}} ?else ?expr}}}}"},
		{"with", " with", " {Arm ?pattern ?-> ?expr}} ?else ?expr}}}}"},
		{"|", " |", " {Arm ?pattern ?-> ?expr}} ?else ?expr}}}}"},
		{"g", " {Arm g", " ?-> ?expr}} ?else ?expr}}}}"},
		{"->", " ->", " ?expr}} ?else ?expr}}}}"},
		{"h", " h}", "} ?else ?expr}}}}"},
		{"|", " |", " {Arm ?pattern ?-> ?expr}} ?else ?expr}}}}"},
		{"\"i\"", " {Arm \"i\"", " ?-> ?expr}} ?else ?expr}}}}"},
		{"->", " ->", " ?expr}} ?else ?expr}}}}"},
		{"-", " {Unary -", " ?expr}}} ?else ?expr}}}}"},
		{"-.", " {Unary -.", " ?expr}}}} ?else ?expr}}}}"},
		{"j", " j}}}}", " ?else ?expr}}}}"},
		{"else", " else", " ?expr}}}}"},
		{"(", " {Round (", " ?expr ?)}}}}}"},
		{",", " ?expr ,", " ?expr ?)}}}}}"},
		{"k", " k", " ?)}}}}}"},
		{",", " ,", " ?expr ?)}}}}}"},
		{"[", " {List [", " ?expr ?]} ?)}}}}}"},
		{"$", " {Skipped $}", " ?]} ?)}}}}}"},
		{";", " ;", " ?expr ?]} ?)}}}}}"},
		{"(", " {Round (", " ?expr ?)} ?]} ?)}}}}}"},
		{")", " )}", " ?]} ?)}}}}}"},
		{"]", " ]}", " ?)}}}}}"},
		{")", " )}}}}}", ""},
		{"in", " {Skipped in", "}"},
		{")", " )", "}"},
		{"#", " #}", ""},
		{"let", " {Decl let", " ?pattern ?= ?expr}"},
		{"=", " ?pattern =", " ?expr}"},
	} {
		text += x.token
		made += x.makes
		gives(t, text, made+x.missing+" EOF}")
		gives(t, text+" \n(* a *)", made+x.missing+" EOF}")
		text += " "
	}
}

// strays are tokens that may stand in many places, but not in most of them.
const strays = "rec in then else with -> | ) ] ; , _"

// Each Word and Sign that is not expected: nothing but what is missing is made of it, up to the document, where it is skipped.
func TestStrays(t *testing.T) {
	const arm = "{Arm ?pattern ?-> ?expr}"
	for _, x := range []struct{ before, made, expected string }{
		{"", "", ""},
		{"let x = 1", " {Decl let x = 1}", ""},
		{"let x =", " {Decl let x = ?expr}", ""},
		{"let x = 1 +", " {Decl let x = {Binary 1 + ?expr}}", ""},
		{"let x = 1 ::", " {Decl let x = {Binary 1 :: ?expr}}", ""},
		{"let x = -", " {Decl let x = {Unary - ?expr}}", ""},
		{"let x = f", " {Decl let x = f}", ""},
		{"let x = f a", " {Decl let x = {Apply f a}}", ""},
		{"let x = ()", " {Decl let x = {Round ( )}}", ""},
		{"let x = (", " {Decl let x = {Round ( ?expr ?)}}", ") ,"},
		{"let x = (1", " {Decl let x = {Round ( 1 ?)}}", ") ,"},
		{"let x = (1,", " {Decl let x = {Round ( 1 , ?expr ?)}}", ") ,"},
		{"let x = (1, 2", " {Decl let x = {Round ( 1 , 2 ?)}}", ") ,"},
		{"let x = [", " {Decl let x = {List [ ?expr ?]}}", "] ;"},
		{"let x = [1", " {Decl let x = {List [ 1 ?]}}", "] ;"},
		{"let x = [1;", " {Decl let x = {List [ 1 ; ?expr ?]}}", "] ;"},
		{"let x = [1; 2", " {Decl let x = {List [ 1 ; 2 ?]}}", "] ;"},
		{"let", " {Decl let ?pattern ?= ?expr}", "rec _"},
		{"let rec", " {Decl let rec ?pattern ?= ?expr}", "_"},
		{"let x", " {Decl let x ?= ?expr}", "_"},
		{"let f a", " {Decl let f a ?= ?expr}", "_"},
		{"let _", " {Decl let _ ?= ?expr}", ""},
		{"let ()", " {Decl let {PRound ( )} ?= ?expr}", ""},
		{"let (", " {Decl let {PRound ( ?pattern ?)} ?= ?expr}", ") , _"},
		{"let (a", " {Decl let {PRound ( a ?)} ?= ?expr}", ") ,"},
		{"let (a,", " {Decl let {PRound ( a , ?pattern ?)} ?= ?expr}", ") , _"},
		{"let (a ::", " {Decl let {PRound ( {PCons a :: ?pattern} ?)} ?= ?expr}", ") , _"},
		{"let [", " {Decl let {PList [ ?pattern ?]} ?= ?expr}", "] ; _"},
		{"let [a", " {Decl let {PList [ a ?]} ?= ?expr}", "] ;"},
		{"let [a;", " {Decl let {PList [ a ; ?pattern ?]} ?= ?expr}", "] ; _"},
		{"let x = fun", " {Decl let x = {Lambda fun ?pattern ?-> ?expr}}", "-> _"},
		{"let x = fun a", " {Decl let x = {Lambda fun a ?-> ?expr}}", "-> _"},
		{"let x = fun a ->", " {Decl let x = {Lambda fun a -> ?expr}}", ""},
		{"let x = fun a -> b", " {Decl let x = {Lambda fun a -> b}}", ""},
		{"let x = if", " {Decl let x = {If if ?expr ?then ?expr ?else ?expr}}", "then else"},
		{"let x = if a", " {Decl let x = {If if a ?then ?expr ?else ?expr}}", "then else"},
		{"let x = if a then", " {Decl let x = {If if a then ?expr ?else ?expr}}", "else"},
		{"let x = if a then b", " {Decl let x = {If if a then b ?else ?expr}}", "else"},
		{"let x = if a then b else", " {Decl let x = {If if a then b else ?expr}}", ""},
		{"let x = if a then b else c", " {Decl let x = {If if a then b else c}}", ""},
		{"let x = match", " {Decl let x = {Match match ?expr ?with " + arm + "}}", "with | -> _"},
		{"let x = match a", " {Decl let x = {Match match a ?with " + arm + "}}", "with | -> _"},
		{"let x = match a with", " {Decl let x = {Match match a with " + arm + "}}", "| -> _"},
		{"let x = match a with b", " {Decl let x = {Match match a with {Arm b ?-> ?expr}}}", "| ->"},
		{"let x = match a with b ::", " {Decl let x = {Match match a with {Arm {PCons b :: ?pattern} ?-> ?expr}}}", "| -> _"},
		{"let x = match a with b ->", " {Decl let x = {Match match a with {Arm b -> ?expr}}}", "|"},
		{"let x = match a with b -> c", " {Decl let x = {Match match a with {Arm b -> c}}}", "|"},
		{"let x = match a with b -> c |", " {Decl let x = {Match match a with {Arm b -> c} | " + arm + "}}", "| -> _"},
		{"let x = let", " {Decl let x = {LetIn let ?pattern ?= ?expr ?in ?expr}}", "rec in _"},
		{"let x = let a", " {Decl let x = {LetIn let a ?= ?expr ?in ?expr}}", "in _"},
		{"let x = let a =", " {Decl let x = {LetIn let a = ?expr ?in ?expr}}", "in"},
		{"let x = let a = 1", " {Decl let x = {LetIn let a = 1 ?in ?expr}}", "in"},
		{"let x = let a = 1 in", " {Decl let x = {LetIn let a = 1 in ?expr}}", ""},
		{"let x = let a = 1 in b", " {Decl let x = {LetIn let a = 1 in b}}", ""},
	} {
		for _, w := range strings.Fields(strays) {
			if !slices.Contains(strings.Fields(x.expected), w) {
				gives(t, x.before+" "+w, "{Doc"+x.made+" {Skipped "+w+"} EOF}")
				gives(t, x.before+" "+w+" 1 "+w+" let y = 2", "{Doc"+x.made+" {Skipped "+w+" 1 "+w+"} {Decl let y = 2} EOF}")
			}
		}
	}
}

// Where an operand must be, no expression of a Word may be.
func TestWordsAsOperands(t *testing.T) {
	for _, w := range []string{"fun a -> b", "if a then b else c", "match a with b -> c"} {
		for _, x := range []struct{ before, made string }{
			{"1 +", "{Binary 1 + ?expr}"}, {"1 ::", "{Binary 1 :: ?expr}"}, {"1 ||", "{Binary 1 || ?expr}"}, {"-", "{Unary - ?expr}"}, {"- -.", "{Unary - {Unary -. ?expr}}"}, {"f", "f"}, {"f a", "{Apply f a}"}, {"1 * f", "{Binary 1 * f}"},
		} {
			gives(t, "let x = "+x.before+" "+w, "{Doc {Decl let x = "+x.made+"} {Skipped "+w+"} EOF}")
			gives(t, "let x = "+x.before+" let a = 1", "{Doc {Decl let x = "+x.made+"} {Decl let a = 1} EOF}")
			gives(t, "let x = ("+x.before+" "+w+")", "{Doc {Decl let x = {Round ( "+x.made+" ?)}} {Skipped "+w+" )} EOF}")
		}
	}
}

// Bad tokens, at each place where an atom or a pattern atom may be, and where neither may be.
func TestBadTokens(t *testing.T) {
	for _, bad := range []string{"$", "'", ":", "!", "\u00e9", "1.0e24", "\"a\\q\""} {
		for _, x := range []struct{ before, after, want string }{
			{"", "", "{Doc {Skipped $} EOF}"},
			{"a", "b", "{Doc {Skipped a $ b} EOF}"},
			{"$", "let x = 1", "{Doc {Skipped $ $} {Decl let x = 1} EOF}"},
			{"let", "= 1", "{Doc {Decl let {Skipped $} = 1} EOF}"},
			{"let rec", "= 1", "{Doc {Decl let rec {Skipped $} = 1} EOF}"},
			{"let", "rec a = 1", "{Doc {Decl let {Skipped $} ?= ?expr} {Skipped rec a = 1} EOF}"},
			{"let", "a = 1", "{Doc {Decl let {Skipped $} ?= {Binary a = 1}} EOF}"},
			{"let f", "= 1", "{Doc {Decl let f {Skipped $} = 1} EOF}"},
			{"let f a", "b = 1", "{Doc {Decl let f a {Skipped $} b = 1} EOF}"},
			{"let f =", "", "{Doc {Decl let f = {Skipped $}} EOF}"},
			{"let f = a", "", "{Doc {Decl let f = {Apply a {Skipped $}}} EOF}"},
			{"let f = a", "b", "{Doc {Decl let f = {Apply {Apply a {Skipped $}} b}} EOF}"},
			{"let f =", "a", "{Doc {Decl let f = {Apply {Skipped $} a}} EOF}"},
			{"let f = -", "a", "{Doc {Decl let f = {Unary - {Apply {Skipped $} a}}} EOF}"},
			{"let f = a *", "* b", "{Doc {Decl let f = {Binary {Binary a * {Skipped $}} * b}} EOF}"},
			{"let f = a", "* b", "{Doc {Decl let f = {Binary {Apply a {Skipped $}} * b}} EOF}"},
			{"let f = (", ")", "{Doc {Decl let f = {Round ( {Skipped $} )}} EOF}"},
			{"let f = (a", ", b)", "{Doc {Decl let f = {Round ( {Apply a {Skipped $}} , b )}} EOF}"},
			{"let f = ()", "", "{Doc {Decl let f = {Apply {Round ( )} {Skipped $}}} EOF}"},
			{"let f = [", ";]", "{Doc {Decl let f = {List [ {Skipped $} ; ?expr ]}} EOF}"},
			{"let f = [a;", "", "{Doc {Decl let f = {List [ a ; {Skipped $} ?]}} EOF}"},
			{"let (", ") = 1", "{Doc {Decl let {PRound ( {Skipped $} )} = 1} EOF}"},
			{"let (a", ") = 1", "{Doc {Decl let {PRound ( a ?)} ?= {Skipped $}} {Skipped ) = 1} EOF}"},
			{"let [a ::", ":: b] = 1", "{Doc {Decl let {PList [ {PCons a :: {PCons {Skipped $} :: b}} ]} = 1} EOF}"},
			{"let f = let", "= 1 in 2", "{Doc {Decl let f = {LetIn let {Skipped $} = 1 in 2}} EOF}"},
			{"let f = let a = 1", "in 2", "{Doc {Decl let f = {LetIn let a = {Apply 1 {Skipped $}} in 2}} EOF}"},
			{"let f = let a = 1 in", "", "{Doc {Decl let f = {LetIn let a = 1 in {Skipped $}}} EOF}"},
			{"let f = fun", "-> 1", "{Doc {Decl let f = {Lambda fun {Skipped $} -> 1}} EOF}"},
			{"let f = fun a", "-> 1", "{Doc {Decl let f = {Lambda fun a {Skipped $} -> 1}} EOF}"},
			{"let f = fun a ->", "1", "{Doc {Decl let f = {Lambda fun a -> {Apply {Skipped $} 1}}} EOF}"},
			{"let f = if", "then a else b", "{Doc {Decl let f = {If if {Skipped $} then a else b}} EOF}"},
			{"let f = if a then", "else b", "{Doc {Decl let f = {If if a then {Skipped $} else b}} EOF}"},
			{"let f = if a then b else", "", "{Doc {Decl let f = {If if a then b else {Skipped $}}} EOF}"},
			{"let f = match", "with a -> b", "{Doc {Decl let f = {Match match {Skipped $} with {Arm a -> b}}} EOF}"},
			{"let f = match a with", "-> b", "{Doc {Decl let f = {Match match a with {Arm {Skipped $} -> b}}} EOF}"},
			{"let f = match a with |", "-> b", "{Doc {Decl let f = {Match match a with | {Arm {Skipped $} -> b}}} EOF}"},
			{"let f = match a with b", "-> c", "{Doc {Decl let f = {Match match a with {Arm b ?-> {Skipped $}}}} {Skipped -> c} EOF}"},
			{"let f = match a with b ->", "| c -> d", "{Doc {Decl let f = {Match match a with {Arm b -> {Skipped $}} | {Arm c -> d}}} EOF}"},
			{"let f = 1 )", "let g = 2", "{Doc {Decl let f = 1} {Skipped ) $} {Decl let g = 2} EOF}"},
		} {
			gives(t, strings.ReplaceAll(x.before, "$", bad)+" "+bad+" "+x.after, strings.ReplaceAll(x.want, "$", bad))
		}
	}
}
