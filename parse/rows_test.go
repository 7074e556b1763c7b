package parse_test

import "testing"

// P12.1: the rows of the chapter's table, by hand.

// The chapter's examples.
func TestExamples(t *testing.T) {
	gives(t, "let x = 1", "{Doc {Decl let x = 1} EOF}")
	gives(t, "let f a b = a + b * 2", "{Doc {Decl let f a b = {Binary a + {Binary b * 2}}} EOF}")
	gives(t, "let x = (1", "{Doc {Decl let x = {Round ( 1 ?)}} EOF}")
	gives(t, ") let x =", "{Doc {Skipped )} {Decl let x = ?expr} EOF}")
	givesBody(t, "f - 1", "{Binary f - 1}")
	givesBody(t, "f (-1)", "{Apply f {Round ( {Unary - 1} )}}")
	gives(t, "let rec m f l = match l with [] -> [] | h :: t -> f h :: m f t",
		"{Doc {Decl let rec m f l = {Match match l with {Arm {PList [ ]} -> {List [ ]}} | {Arm {PCons h :: t} -> {Binary {Apply f h} :: {Apply {Apply m f} t}}}}} EOF}")
}

func TestDocuments(t *testing.T) {
	gives(t, "", "{Doc EOF}")
	gives(t, " \n", "{Doc EOF}")
	gives(t, "(* a *)", "{Doc EOF}")
	gives(t, "x", "{Doc {Skipped x} EOF}")
	gives(t, "x = 1 in ( ] y", "{Doc {Skipped x = 1 in ( ] y} EOF}")
	gives(t, "let x = 1 let y = 2", "{Doc {Decl let x = 1} {Decl let y = 2} EOF}")
	gives(t, "let x = 1 let y = 2 let z = 3", "{Doc {Decl let x = 1} {Decl let y = 2} {Decl let z = 3} EOF}")
	gives(t, ") ] let x = 1", "{Doc {Skipped ) ]} {Decl let x = 1} EOF}")
	gives(t, "let x = 1 ) ] let y = 2", "{Doc {Decl let x = 1} {Skipped ) ]} {Decl let y = 2} EOF}")
	gives(t, "let x = 1 ) ]", "{Doc {Decl let x = 1} {Skipped ) ]} EOF}")
	gives(t, "1 let x = 1 ) let y = 2 | 3 , let z = 3 rec rec", "{Doc {Skipped 1} {Decl let x = 1} {Skipped )} {Decl let y = 2} {Skipped | 3 ,} {Decl let z = 3} {Skipped rec rec} EOF}")
	gives(t, "$", "{Doc {Skipped $} EOF}")
	gives(t, "$ # let x = 1", "{Doc {Skipped $ #} {Decl let x = 1} EOF}")
	gives(t, "(* a", "{Doc {Skipped (* a} EOF}")
	gives(t, "let x = 1 (* a", "{Doc {Decl let x = {Apply 1 {Skipped (* a}}} EOF}")
	gives(t, "let x = 1 = (* a", "{Doc {Decl let x = {Binary 1 = {Skipped (* a}}} EOF}")
}

func TestDeclarations(t *testing.T) {
	gives(t, "let rec f = 1", "{Doc {Decl let rec f = 1} EOF}")
	gives(t, "let rec f a _ = f", "{Doc {Decl let rec f a _ = f} EOF}")
	gives(t, "let rec rec = 1", "{Doc {Decl let rec ?pattern ?= ?expr} {Skipped rec = 1} EOF}")
	gives(t, "let f rec = 1", "{Doc {Decl let f ?= ?expr} {Skipped rec = 1} EOF}")
	gives(t, "let rec (a, b) = 1", "{Doc {Decl let rec {PRound ( a , b )} = 1} EOF}")
	gives(t, "let rec = 1", "{Doc {Decl let rec ?pattern = 1} EOF}")
	gives(t, "let let x = 1", "{Doc {Decl let ?pattern ?= {LetIn let x = 1 ?in ?expr}} EOF}")
	gives(t, "rec let x = 1", "{Doc {Skipped rec} {Decl let x = 1} EOF}")
	gives(t, "let rec let rec", "{Doc {Decl let rec ?pattern ?= {LetIn let rec ?pattern ?= ?expr ?in ?expr}} EOF}")
}

func TestBindings(t *testing.T) {
	gives(t, "let f a 1 \"b\" true false _ () (a) (a, b) [] [a] [a; b] = 1", "{Doc {Decl let f a 1 \"b\" true false _ {PRound ( )} {PRound ( a )} {PRound ( a , b )} {PList [ ]} {PList [ a ]} {PList [ a ; b ]} = 1} EOF}")
	gives(t, "let f $ a = 1", "{Doc {Decl let f {Skipped $} a = 1} EOF}")
	// Only a Name may have parameters.
	for _, x := range []struct{ pattern, want string }{
		{"_", "_"}, {"1", "1"}, {"\"b\"", "\"b\""}, {"true", "true"}, {"false", "false"}, {"$", "{Skipped $}"},
		{"()", "{PRound ( )}"}, {"(f)", "{PRound ( f )}"}, {"[]", "{PList [ ]}"}, {"[f]", "{PList [ f ]}"},
	} {
		givesPattern(t, x.pattern, x.want)
		givesPattern(t, "rec "+x.pattern, "rec "+x.want)
		givesPattern(t, "f "+x.pattern, "f "+x.want)
		givesPattern(t, "rec f "+x.pattern+" "+x.pattern, "rec f "+x.want+" "+x.want)
		gives(t, "let "+x.pattern+" a = 1", "{Doc {Decl let "+x.want+" ?= {Binary a = 1}} EOF}")
		gives(t, "let rec "+x.pattern+" a", "{Doc {Decl let rec "+x.want+" ?= a} EOF}")
		givesBody(t, "let "+x.pattern+" = 1 in 2", "{LetIn let "+x.want+" = 1 in 2}")
		givesBody(t, "let rec f "+x.pattern+" a = 1 in 2", "{LetIn let rec f "+x.want+" a = 1 in 2}")
		givesBody(t, "let "+x.pattern+" a = 1 in 2", "{LetIn let "+x.want+" ?= {Binary a = 1} in 2}")
		givesBody(t, "fun "+x.pattern+" -> 1", "{Lambda fun "+x.want+" -> 1}")
		givesBody(t, "fun a "+x.pattern+" "+x.pattern+" b -> 1", "{Lambda fun a "+x.want+" "+x.want+" b -> 1}")
		givesBody(t, "fun "+x.pattern+" a -> 1", "{Lambda fun "+x.want+" a -> 1}")
		givesArm(t, x.pattern, x.want)
		givesArm(t, x.pattern+" :: "+x.pattern, "{PCons "+x.want+" :: "+x.want+"}")
	}
	// A Float is no pattern, nor are patterns with :: outside of brackets here.
	gives(t, "let f 1.5 = 1", "{Doc {Decl let f ?= {Binary 1.5 = 1}} EOF}")
	gives(t, "let 1.5 = 1", "{Doc {Decl let ?pattern ?= {Binary 1.5 = 1}} EOF}")
	gives(t, "let a :: b = 1", "{Doc {Decl let a ?= {Binary {Binary ?expr :: b} = 1}} EOF}")
	gives(t, "let f -1 = 1", "{Doc {Decl let f ?= {Binary {Unary - 1} = 1}} EOF}")
	gives(t, "let (a :: b) = 1", "{Doc {Decl let {PRound ( {PCons a :: b} )} = 1} EOF}")
}

func TestMissingInBindings(t *testing.T) {
	gives(t, "let", "{Doc {Decl let ?pattern ?= ?expr} EOF}")
	gives(t, "let rec", "{Doc {Decl let rec ?pattern ?= ?expr} EOF}")
	gives(t, "let x", "{Doc {Decl let x ?= ?expr} EOF}")
	gives(t, "let rec f a", "{Doc {Decl let rec f a ?= ?expr} EOF}")
	gives(t, "let =", "{Doc {Decl let ?pattern = ?expr} EOF}")
	gives(t, "let = 1", "{Doc {Decl let ?pattern = 1} EOF}")
	gives(t, "let x = let y = 2", "{Doc {Decl let x = {LetIn let y = 2 ?in ?expr}} EOF}")
	gives(t, "let x let y = 2", "{Doc {Decl let x ?= {LetIn let y = 2 ?in ?expr}} EOF}")
	gives(t, "let x = ) let y = 2", "{Doc {Decl let x = ?expr} {Skipped )} {Decl let y = 2} EOF}")
	gives(t, "let ) = 1", "{Doc {Decl let ?pattern ?= ?expr} {Skipped ) = 1} EOF}")
	gives(t, "let f a ) = 1", "{Doc {Decl let f a ?= ?expr} {Skipped ) = 1} EOF}")
	gives(t, "let x == 1", "{Doc {Decl let x = {Binary ?expr = 1}} EOF}")
	gives(t, "let x <> 1", "{Doc {Decl let x ?= {Binary ?expr <> 1}} EOF}")
}

func TestLetIn(t *testing.T) {
	givesBody(t, "let a = 1 in a", "{LetIn let a = 1 in a}")
	givesBody(t, "let rec f a b = f in f", "{LetIn let rec f a b = f in f}")
	givesBody(t, "let a = 1 in let b = 2 in a", "{LetIn let a = 1 in {LetIn let b = 2 in a}}")
	givesBody(t, "let a = let b = 2 in b in a", "{LetIn let a = {LetIn let b = 2 in b} in a}")
	givesBody(t, "let a = 1 in b + c", "{LetIn let a = 1 in {Binary b + c}}")
	givesBody(t, "let a = 1", "{LetIn let a = 1 ?in ?expr}")
	givesBody(t, "let a = 1 in", "{LetIn let a = 1 in ?expr}")
	givesBody(t, "let a = in b", "{LetIn let a = ?expr in b}")
	givesBody(t, "let a in b", "{LetIn let a ?= ?expr in b}")
	givesBody(t, "let in b", "{LetIn let ?pattern ?= ?expr in b}")
	givesBody(t, "let rec in b", "{LetIn let rec ?pattern ?= ?expr in b}")
	givesBody(t, "let a = 1 if b then c else d", "{LetIn let a = 1 ?in {If if b then c else d}}")
	givesBody(t, "let a = 1 let b = 2 in c", "{LetIn let a = 1 ?in {LetIn let b = 2 in c}}")
	gives(t, "let x = let a = 1 ) in b", "{Doc {Decl let x = {LetIn let a = 1 ?in ?expr}} {Skipped ) in b} EOF}")
	gives(t, "let x = let a = 1 in ) b", "{Doc {Decl let x = {LetIn let a = 1 in ?expr}} {Skipped ) b} EOF}")
	gives(t, "let x = 1 in x", "{Doc {Decl let x = 1} {Skipped in x} EOF}")
}

func TestLambdas(t *testing.T) {
	givesBody(t, "fun a -> 1", "{Lambda fun a -> 1}")
	givesBody(t, "fun a b c -> 1", "{Lambda fun a b c -> 1}")
	givesBody(t, "fun _ (a, b) [c] 1 -> a + b", "{Lambda fun _ {PRound ( a , b )} {PList [ c ]} 1 -> {Binary a + b}}")
	givesBody(t, "fun a -> fun b -> a", "{Lambda fun a -> {Lambda fun b -> a}}")
	givesBody(t, "fun", "{Lambda fun ?pattern ?-> ?expr}")
	givesBody(t, "fun a", "{Lambda fun a ?-> ?expr}")
	givesBody(t, "fun a b", "{Lambda fun a b ?-> ?expr}")
	givesBody(t, "fun a ->", "{Lambda fun a -> ?expr}")
	givesBody(t, "fun ->", "{Lambda fun ?pattern -> ?expr}")
	givesBody(t, "fun -> 1", "{Lambda fun ?pattern -> 1}")
	gives(t, "let x = fun 1.5 -> 1", "{Doc {Decl let x = {Lambda fun ?pattern ?-> 1.5}} {Skipped -> 1} EOF}")
	givesBody(t, "fun a if b then c else d", "{Lambda fun a ?-> {If if b then c else d}}")
	givesBody(t, "fun fun a -> 1", "{Lambda fun ?pattern ?-> {Lambda fun a -> 1}}")
	gives(t, "let x = fun ) -> 1", "{Doc {Decl let x = {Lambda fun ?pattern ?-> ?expr}} {Skipped ) -> 1} EOF}")
	gives(t, "let x = fun a = 1", "{Doc {Decl let x = {Lambda fun a ?-> {Binary ?expr = 1}}} EOF}")
	gives(t, "let x = fun a :: b -> 1", "{Doc {Decl let x = {Lambda fun a ?-> {Binary ?expr :: b}}} {Skipped -> 1} EOF}")
	gives(t, "let x = fun a -> -> 1", "{Doc {Decl let x = {Lambda fun a -> ?expr}} {Skipped -> 1} EOF}")
}

func TestIfs(t *testing.T) {
	givesBody(t, "if a then b else c", "{If if a then b else c}")
	givesBody(t, "if a then b else if c then d else e", "{If if a then b else {If if c then d else e}}")
	givesBody(t, "if a then if b then c else d else e", "{If if a then {If if b then c else d} else e}")
	givesBody(t, "if if a then b else c then d else e", "{If if {If if a then b else c} then d else e}")
	givesBody(t, "if a = b then c + d else e f", "{If if {Binary a = b} then {Binary c + d} else {Apply e f}}")
	givesBody(t, "if", "{If if ?expr ?then ?expr ?else ?expr}")
	givesBody(t, "if a", "{If if a ?then ?expr ?else ?expr}")
	givesBody(t, "if a then", "{If if a then ?expr ?else ?expr}")
	givesBody(t, "if a then b", "{If if a then b ?else ?expr}")
	givesBody(t, "if a then b else", "{If if a then b else ?expr}")
	givesBody(t, "if then b else c", "{If if ?expr then b else c}")
	givesBody(t, "if a then else c", "{If if a then ?expr else c}")
	givesBody(t, "if then else", "{If if ?expr then ?expr else ?expr}")
	givesBody(t, "if else c", "{If if ?expr ?then ?expr else c}")
	givesBody(t, "if a else c", "{If if a ?then ?expr else c}")
	givesBody(t, "if a let b = c in d else e", "{If if a ?then {LetIn let b = c in d} else e}")
	givesBody(t, "if a then b fun c -> d", "{If if a then b ?else {Lambda fun c -> d}}")
	gives(t, "let x = if a then b ) else c", "{Doc {Decl let x = {If if a then b ?else ?expr}} {Skipped ) else c} EOF}")
	gives(t, "let x = if ) a then b else c", "{Doc {Decl let x = {If if ?expr ?then ?expr ?else ?expr}} {Skipped ) a then b else c} EOF}")
	gives(t, "let x = if a else b then c", "{Doc {Decl let x = {If if a ?then ?expr else b}} {Skipped then c} EOF}")
}

func TestMatches(t *testing.T) {
	givesBody(t, "match a with b -> c", "{Match match a with {Arm b -> c}}")
	givesBody(t, "match a with | b -> c", "{Match match a with | {Arm b -> c}}")
	givesBody(t, "match a with b -> c | d -> e", "{Match match a with {Arm b -> c} | {Arm d -> e}}")
	givesBody(t, "match a with | b -> c | d -> e | f -> g", "{Match match a with | {Arm b -> c} | {Arm d -> e} | {Arm f -> g}}")
	givesBody(t, "match a with b -> match c with d -> e | f -> g", "{Match match a with {Arm b -> {Match match c with {Arm d -> e} | {Arm f -> g}}}}")
	givesBody(t, "match a with b -> (match c with d -> e) | f -> g", "{Match match a with {Arm b -> {Round ( {Match match c with {Arm d -> e}} )}} | {Arm f -> g}}")
	givesBody(t, "match match a with b -> c with d -> e", "{Match match {Match match a with {Arm b -> c}} with {Arm d -> e}}")
	givesBody(t, "match a with b -> fun c -> d | e -> f", "{Match match a with {Arm b -> {Lambda fun c -> d}} | {Arm e -> f}}")
	givesBody(t, "match a with b :: c -> d || e | _ -> f", "{Match match a with {Arm {PCons b :: c} -> {Binary d || e}} | {Arm _ -> f}}")
	givesBody(t, "match", "{Match match ?expr ?with {Arm ?pattern ?-> ?expr}}")
	givesBody(t, "match a", "{Match match a ?with {Arm ?pattern ?-> ?expr}}")
	givesBody(t, "match a with", "{Match match a with {Arm ?pattern ?-> ?expr}}")
	givesBody(t, "match a with |", "{Match match a with | {Arm ?pattern ?-> ?expr}}")
	givesBody(t, "match a with b", "{Match match a with {Arm b ?-> ?expr}}")
	givesBody(t, "match a with b ->", "{Match match a with {Arm b -> ?expr}}")
	givesBody(t, "match a with b -> c |", "{Match match a with {Arm b -> c} | {Arm ?pattern ?-> ?expr}}")
	givesBody(t, "match a with | | b -> c", "{Match match a with | {Arm ?pattern ?-> ?expr} | {Arm b -> c}}")
	givesBody(t, "match a with b | c -> d", "{Match match a with {Arm b ?-> ?expr} | {Arm c -> d}}")
	givesBody(t, "match a with b -> | c -> d", "{Match match a with {Arm b -> ?expr} | {Arm c -> d}}")
	givesBody(t, "match a with -> c", "{Match match a with {Arm ?pattern -> c}}")
	givesBody(t, "match with b -> c", "{Match match ?expr with {Arm b -> c}}")
	givesBody(t, "match a | b -> c", "{Match match a ?with | {Arm b -> c}}")
	givesBody(t, "match | b -> c", "{Match match ?expr ?with | {Arm b -> c}}")
	givesBody(t, "match a _ -> c", "{Match match a ?with {Arm _ -> c}}")
	gives(t, "let x = match a with b -> c ) | d -> e", "{Doc {Decl let x = {Match match a with {Arm b -> c}}} {Skipped ) | d -> e} EOF}")
	gives(t, "let x = match a with ) -> c", "{Doc {Decl let x = {Match match a with {Arm ?pattern ?-> ?expr}}} {Skipped ) -> c} EOF}")
	gives(t, "let x = match a with b if c then d else e | f -> g", "{Doc {Decl let x = {Match match a with {Arm b ?-> {If if c then d else e}} | {Arm f -> g}}} EOF}")
}
