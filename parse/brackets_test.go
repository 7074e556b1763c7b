package parse_test

import (
	"strings"
	"testing"
)

// P12.1: brackets and patterns, by hand.

func TestBrackets(t *testing.T) {
	for _, x := range []struct{ open, comma, shut, kind, patternKind, otherComma, otherShut string }{
		{"(", ",", ")", "Round", "PRound", ";", "]"}, {"[", ";", "]", "List", "PList", ",", ")"},
	} {
		inBoth := func(brackets, want string) {
			t.Helper()
			want = strings.NewReplacer("{Brackets", "{"+x.kind, "?part", "?expr").Replace(want)
			givesBody(t, brackets, want)
			givesBody(t, "f "+brackets, "{Apply f "+want+"}")
			want = strings.NewReplacer("{"+x.kind, "{"+x.patternKind, "?expr", "?pattern").Replace(want)
			gives(t, "let "+brackets, "{Doc {Decl let "+want+" ?= ?expr} EOF}")
			gives(t, "let f "+brackets, "{Doc {Decl let f "+want+" ?= ?expr} EOF}")
			givesBody(t, "fun "+brackets, "{Lambda fun "+want+" ?-> ?expr}")
			givesBody(t, "match a with "+brackets, "{Match match a with {Arm "+want+" ?-> ?expr}}")
		}
		open, comma, shut := x.open, " "+x.comma+" ", " "+x.shut
		inBoth(open+shut, "{Brackets "+open+shut+"}")
		inBoth(open+" a"+shut, "{Brackets "+open+" a"+shut+"}")
		inBoth(open+" a"+comma+"b"+shut, "{Brackets "+open+" a"+comma+"b"+shut+"}")
		inBoth(open+" a"+comma+"1"+comma+"true"+comma+"\"d\""+shut, "{Brackets "+open+" a"+comma+"1"+comma+"true"+comma+"\"d\""+shut+"}")
		inBoth(open+open+shut+comma+open+" a"+shut+shut, "{Brackets "+open+" {Brackets "+open+shut+"}"+comma+"{Brackets "+open+" a"+shut+"}"+shut+"}")
		// Elements missing.
		inBoth(open+comma+shut, "{Brackets "+open+" ?part"+comma+"?part"+shut+"}")
		inBoth(open+comma+"a"+shut, "{Brackets "+open+" ?part"+comma+"a"+shut+"}")
		inBoth(open+" a"+comma+shut, "{Brackets "+open+" a"+comma+"?part"+shut+"}")
		inBoth(open+" a"+comma+comma+"b"+shut, "{Brackets "+open+" a"+comma+"?part"+comma+"b"+shut+"}")
		inBoth(open+comma+comma+shut, "{Brackets "+open+" ?part"+comma+"?part"+comma+"?part"+shut+"}")
		// The end is next.
		inBoth(open, "{Brackets "+open+" ?part ?"+x.shut+"}")
		inBoth(open+" a", "{Brackets "+open+" a ?"+x.shut+"}")
		inBoth(open+" a"+comma, "{Brackets "+open+" a"+comma+"?part ?"+x.shut+"}")
		inBoth(open+" a"+comma+"b", "{Brackets "+open+" a"+comma+"b ?"+x.shut+"}")
		inBoth(open+open+" a"+shut, "{Brackets "+open+" {Brackets "+open+" a"+shut+"} ?"+x.shut+"}")
		inBoth(open+" $"+shut, "{Brackets "+open+" {Skipped $}"+shut+"}")
		inBoth(open+" $"+comma+"$", "{Brackets "+open+" {Skipped $}"+comma+"{Skipped $} ?"+x.shut+"}")
		// What belongs to the other brackets.
		gives(t, "let x = "+open+" a "+x.otherShut, "{Doc {Decl let x = {"+x.kind+" "+open+" a ?"+x.shut+"}} {Skipped "+x.otherShut+"} EOF}")
		gives(t, "let x = "+open+" a "+x.otherComma+" b"+shut, "{Doc {Decl let x = {"+x.kind+" "+open+" a ?"+x.shut+"}} {Skipped "+x.otherComma+" b"+shut+"} EOF}")
		gives(t, "let x = "+open+" "+x.otherShut+" a"+shut, "{Doc {Decl let x = {"+x.kind+" "+open+" ?expr ?"+x.shut+"}} {Skipped "+x.otherShut+" a"+shut+"} EOF}")
		gives(t, "let x = "+open+" in"+shut, "{Doc {Decl let x = {"+x.kind+" "+open+" ?expr ?"+x.shut+"}} {Skipped in"+shut+"} EOF}")
		gives(t, "let "+open+" a "+x.otherComma+" b"+shut+" = 1", "{Doc {Decl let {"+x.patternKind+" "+open+" a ?"+x.shut+"} ?= ?expr} {Skipped "+x.otherComma+" b"+shut+" = 1} EOF}")
		// Whole expressions, and whole patterns.
		givesBody(t, open+" let a = 1 in a"+comma+"fun b -> b"+comma+"if c then d else e"+comma+"match f with g -> h"+comma+"- i + j k"+shut,
			"{"+x.kind+" "+open+" {LetIn let a = 1 in a}"+comma+"{Lambda fun b -> b}"+comma+"{If if c then d else e}"+comma+"{Match match f with {Arm g -> h}}"+comma+"{Binary {Unary - i} + {Apply j k}}"+shut+"}")
		givesPattern(t, open+" a :: b"+comma+"_ :: 1 :: c"+shut, "{"+x.patternKind+" "+open+" {PCons a :: b}"+comma+"{PCons _ :: {PCons 1 :: c}}"+shut+"}")
		gives(t, "let x = "+open+" a"+comma+" let b = 1", "{Doc {Decl let x = {"+x.kind+" "+open+" a"+comma+"{LetIn let b = 1 ?in ?expr} ?"+x.shut+"}} EOF}")
		gives(t, "let x = "+open+" a let b = 1", "{Doc {Decl let x = {"+x.kind+" "+open+" a ?"+x.shut+"}} {Decl let b = 1} EOF}")
	}
	gives(t, "let x = ([a, b])", "{Doc {Decl let x = {Round ( {List [ a ?]} , b ?)}} {Skipped ] )} EOF}")
	gives(t, "let x = [(a; b)]", "{Doc {Decl let x = {List [ {Round ( a ?)} ; b ?]}} {Skipped ) ]} EOF}")
}

func TestPatterns(t *testing.T) {
	givesArm(t, "a :: b", "{PCons a :: b}")
	givesArm(t, "a :: b :: c", "{PCons a :: {PCons b :: c}}")
	givesArm(t, "a :: b :: c :: []", "{PCons a :: {PCons b :: {PCons c :: {PList [ ]}}}}")
	givesArm(t, "(a :: b) :: c", "{PCons {PRound ( {PCons a :: b} )} :: c}")
	givesArm(t, "(a, b) :: [c :: d; e]", "{PCons {PRound ( a , b )} :: {PList [ {PCons c :: d} ; e ]}}")
	givesArm(t, "a ::", "{PCons a :: ?pattern}")
	givesArm(t, ":: a", "{PCons ?pattern :: a}")
	givesArm(t, "a :: :: b", "{PCons a :: {PCons ?pattern :: b}}")
	givesArm(t, "$ :: $", "{PCons {Skipped $} :: {Skipped $}}")
	givesArm(t, "1 :: \"a\" :: true :: false :: _", "{PCons 1 :: {PCons \"a\" :: {PCons true :: {PCons false :: _}}}}")
	gives(t, "let x = match a with b :: ) -> c", "{Doc {Decl let x = {Match match a with {Arm {PCons b :: ?pattern} ?-> ?expr}}} {Skipped ) -> c} EOF}")
	gives(t, "let x = match a with 1.5 -> c", "{Doc {Decl let x = {Match match a with {Arm ?pattern ?-> 1.5}}} {Skipped -> c} EOF}")
	gives(t, "let x = match a with - 1 -> c", "{Doc {Decl let x = {Match match a with {Arm ?pattern ?-> {Unary - 1}}}} {Skipped -> c} EOF}")
	gives(t, "let x = match a with b :: 1.5 -> c", "{Doc {Decl let x = {Match match a with {Arm {PCons b :: ?pattern} ?-> 1.5}}} {Skipped -> c} EOF}")
	gives(t, "let x = match a with b c -> d", "{Doc {Decl let x = {Match match a with {Arm b ?-> c}}} {Skipped -> d} EOF}")
	gives(t, "let x = match a with b + c -> d", "{Doc {Decl let x = {Match match a with {Arm b ?-> {Binary ?expr + c}}}} {Skipped -> d} EOF}")
	givesArm(t, "(b, c :: d)", "{PRound ( b , {PCons c :: d} )}")
}
