package parse_test

import "testing"

// P12.1: operators, - and -. ahead of operands, and applications, by hand.

// level are operators of the same level.
type level struct {
	operators []string
	right     bool // right-associative
}

// levels are all, from the loosest on.
func levels() []level {
	return []level{
		{[]string{"||"}, true},
		{[]string{"&&"}, true},
		{[]string{"=", "<>", "<", "<=", ">", ">="}, false},
		{[]string{"@", "^"}, true},
		{[]string{"::"}, true},
		{[]string{"+", "-", "+.", "-."}, false},
		{[]string{"*", "/", "*.", "/.", "mod"}, false},
	}
}

// Each operator beside each other one, of its level and of all others: on the left and on the right.
func TestTwoOperators(t *testing.T) {
	for i, one := range levels() {
		for k, two := range levels() {
			for _, a := range one.operators {
				for _, b := range two.operators {
					leftFirst := i > k || i == k && !one.right
					givesTwo(t, a, b, leftFirst, [3]string{"x", "y", "z"}, [3]string{"x", "y", "z"})
					givesTwo(t, a, b, leftFirst, [3]string{"f x", "g y z", "h z"}, [3]string{"{Apply f x}", "{Apply {Apply g y} z}", "{Apply h z}"})
					givesTwo(t, a, b, leftFirst, [3]string{"- x", "-. y", "- - z"}, [3]string{"{Unary - x}", "{Unary -. y}", "{Unary - {Unary - z}}"})
				}
			}
		}
	}
}

// givesTwo: three operands with two operators between them, of which the first one, or the second one, holds its operands together.
func givesTwo(t *testing.T, a, b string, leftFirst bool, operands, want [3]string) {
	t.Helper()
	x, y, z := want[0], want[1], want[2]
	whole := "{Binary " + x + " " + a + " {Binary " + y + " " + b + " " + z + "}}"
	if leftFirst {
		whole = "{Binary {Binary " + x + " " + a + " " + y + "} " + b + " " + z + "}"
	}
	givesBody(t, operands[0]+" "+a+" "+operands[1]+" "+b+" "+operands[2], whole)
}

// Each operator by itself, and with what is missing at its sides.
func TestOneOperator(t *testing.T) {
	for _, l := range levels() {
		for _, x := range l.operators {
			givesBody(t, "a "+x+" b", "{Binary a "+x+" b}")
			givesBody(t, "a "+x, "{Binary a "+x+" ?expr}")
			gives(t, "let x = a "+x+" ) b", "{Doc {Decl let x = {Binary a "+x+" ?expr}} {Skipped ) b} EOF}")
			gives(t, "let x = a "+x+" let y = 1", "{Doc {Decl let x = {Binary a "+x+" ?expr}} {Decl let y = 1} EOF}")
			gives(t, "let x = a "+x+" if b then c else d", "{Doc {Decl let x = {Binary a "+x+" ?expr}} {Skipped if b then c else d} EOF}")
			gives(t, "let x = a "+x+" fun b -> c", "{Doc {Decl let x = {Binary a "+x+" ?expr}} {Skipped fun b -> c} EOF}")
			gives(t, "let x = a "+x+" match b with c -> d", "{Doc {Decl let x = {Binary a "+x+" ?expr}} {Skipped match b with c -> d} EOF}")
			givesBody(t, "a "+x+" $", "{Binary a "+x+" {Skipped $}}")
			givesBody(t, "$ "+x+" a", "{Binary {Skipped $} "+x+" a}")
			givesBody(t, "a "+x+" (b "+x+" c)", "{Binary a "+x+" {Round ( {Binary b "+x+" c} )}}")
			givesBody(t, "(a "+x+" b) "+x+" c", "{Binary {Round ( {Binary a "+x+" b} )} "+x+" c}")
			if x == "-" || x == "-." {
				continue
			}
			givesBody(t, x+" a", "{Binary ?expr "+x+" a}")
			givesBody(t, x, "{Binary ?expr "+x+" ?expr}")
			givesBody(t, "( "+x+" )", "{Round ( {Binary ?expr "+x+" ?expr} )}")
		}
	}
}

// Several operators of one level, and one of each level, downwards and upwards.
func TestManyOperators(t *testing.T) {
	givesBody(t, "1 - 2 - 3 - 4", "{Binary {Binary {Binary 1 - 2} - 3} - 4}")
	givesBody(t, "1 + 2 - 3 +. 4 -. 5", "{Binary {Binary {Binary {Binary 1 + 2} - 3} +. 4} -. 5}")
	givesBody(t, "1 * 2 / 3 *. 4 /. 5 mod 6", "{Binary {Binary {Binary {Binary {Binary 1 * 2} / 3} *. 4} /. 5} mod 6}")
	givesBody(t, "1 = 2 <> 3 < 4 <= 5 > 6 >= 7", "{Binary {Binary {Binary {Binary {Binary {Binary 1 = 2} <> 3} < 4} <= 5} > 6} >= 7}")
	givesBody(t, "1 :: 2 :: 3 :: 4", "{Binary 1 :: {Binary 2 :: {Binary 3 :: 4}}}")
	givesBody(t, "1 @ 2 ^ 3 @ 4 ^ 5", "{Binary 1 @ {Binary 2 ^ {Binary 3 @ {Binary 4 ^ 5}}}}")
	givesBody(t, "1 && 2 && 3 && 4", "{Binary 1 && {Binary 2 && {Binary 3 && 4}}}")
	givesBody(t, "1 || 2 || 3 || 4", "{Binary 1 || {Binary 2 || {Binary 3 || 4}}}")
	givesBody(t, "a || b && c = d @ e :: f + g * h", "{Binary a || {Binary b && {Binary c = {Binary d @ {Binary e :: {Binary f + {Binary g * h}}}}}}}")
	givesBody(t, "a * b + c :: d @ e = f && g || h", "{Binary {Binary {Binary {Binary {Binary {Binary {Binary a * b} + c} :: d} @ e} = f} && g} || h}")
	givesBody(t, "a + b :: c @ d :: e + f", "{Binary {Binary {Binary a + b} :: c} @ {Binary d :: {Binary e + f}}}")
	givesBody(t, "a = b && c = d || e = f && g = h", "{Binary {Binary {Binary a = b} && {Binary c = d}} || {Binary {Binary e = f} && {Binary g = h}}}")
	givesBody(t, "a :: b = c :: d", "{Binary {Binary a :: b} = {Binary c :: d}}")
	givesBody(t, "1 + * 2", "{Binary 1 + {Binary ?expr * 2}}")
	givesBody(t, "1 * + 2", "{Binary {Binary 1 * ?expr} + 2}")
	givesBody(t, "|| && = :: *", "{Binary ?expr || {Binary ?expr && {Binary ?expr = {Binary ?expr :: {Binary ?expr * ?expr}}}}}")
	gives(t, "let x = a | | b", "{Doc {Decl let x = a} {Skipped | | b} EOF}")
}

func TestUnary(t *testing.T) {
	for _, x := range []string{"-", "-."} {
		other := map[string]string{"-": "-.", "-.": "-"}[x]
		givesBody(t, x+" a", "{Unary "+x+" a}")
		givesBody(t, x+" "+x+" a", "{Unary "+x+" {Unary "+x+" a}}")
		givesBody(t, x+" "+other+" "+x+" a", "{Unary "+x+" {Unary "+other+" {Unary "+x+" a}}}")
		givesBody(t, x+" f a b", "{Unary "+x+" {Apply {Apply f a} b}}")
		givesBody(t, x+" a * b", "{Binary {Unary "+x+" a} * b}")
		givesBody(t, x+" a + b", "{Binary {Unary "+x+" a} + b}")
		givesBody(t, "a * "+x+" b", "{Binary a * {Unary "+x+" b}}")
		givesBody(t, "a mod "+x+" b mod c", "{Binary {Binary a mod {Unary "+x+" b}} mod c}")
		givesBody(t, "a "+x+" b", "{Binary a "+x+" b}")
		givesBody(t, "a "+x+" "+x+" b", "{Binary a "+x+" {Unary "+x+" b}}")
		givesBody(t, "a "+x+" "+other+" "+x+" b "+x+" c", "{Binary {Binary a "+x+" {Unary "+other+" {Unary "+x+" b}}} "+x+" c}")
		givesBody(t, x+" a "+x+" b", "{Binary {Unary "+x+" a} "+x+" b}")
		givesBody(t, "a :: "+x+" b :: c", "{Binary a :: {Binary {Unary "+x+" b} :: c}}")
		givesBody(t, "f "+x+" a", "{Binary f "+x+" a}")
		givesBody(t, "f ("+x+" a)", "{Apply f {Round ( {Unary "+x+" a} )}}")
		givesBody(t, "f a "+x+" g b", "{Binary {Apply f a} "+x+" {Apply g b}}")
		givesBody(t, x+" (a + b)", "{Unary "+x+" {Round ( {Binary a + b} )}}")
		givesBody(t, x+" $", "{Unary "+x+" {Skipped $}}")
		givesBody(t, x, "{Unary "+x+" ?expr}")
		givesBody(t, x+" "+x, "{Unary "+x+" {Unary "+x+" ?expr}}")
		givesBody(t, x+" * a", "{Binary {Unary "+x+" ?expr} * a}")
		givesBody(t, "( "+x+" )", "{Round ( {Unary "+x+" ?expr} )}")
		givesBody(t, "a && "+x+" b", "{Binary a && {Unary "+x+" b}}")
		gives(t, "let x = "+x+" fun a -> b", "{Doc {Decl let x = {Unary "+x+" ?expr}} {Skipped fun a -> b} EOF}")
		gives(t, "let x = "+x+" let y = 1", "{Doc {Decl let x = {Unary "+x+" ?expr}} {Decl let y = 1} EOF}")
		gives(t, "let "+x+" 1 = a", "{Doc {Decl let ?pattern ?= {Binary {Unary "+x+" 1} = a}} EOF}")
	}
	// No other operator stands ahead of an operand.
	givesBody(t, "+ a", "{Binary ?expr + a}")
	givesBody(t, "+. a", "{Binary ?expr +. a}")
	givesBody(t, "a + + b", "{Binary {Binary a + ?expr} + b}")
}

func TestApplications(t *testing.T) {
	givesBody(t, "f a", "{Apply f a}")
	givesBody(t, "f a b c d", "{Apply {Apply {Apply {Apply f a} b} c} d}")
	givesBody(t, "f 1 1.5 \"a\" true false () (a) [] [a] $ x", "{Apply {Apply {Apply {Apply {Apply {Apply {Apply {Apply {Apply {Apply {Apply f 1} 1.5} \"a\"} true} false} {Round ( )}} {Round ( a )}} {List [ ]}} {List [ a ]}} {Skipped $}} x}")
	for _, x := range []struct{ atom, want string }{
		{"a", "a"}, {"1", "1"}, {"1.5", "1.5"}, {"\"a\"", "\"a\""}, {"true", "true"}, {"false", "false"}, {"$", "{Skipped $}"},
		{"()", "{Round ( )}"}, {"(a)", "{Round ( a )}"}, {"[]", "{List [ ]}"}, {"[a]", "{List [ a ]}"},
	} {
		givesBody(t, x.atom, x.want)
		givesBody(t, x.atom+" b", "{Apply "+x.want+" b}")
		givesBody(t, "b "+x.atom, "{Apply b "+x.want+"}")
		givesBody(t, x.atom+" "+x.atom+" + "+x.atom, "{Binary {Apply "+x.want+" "+x.want+"} + "+x.want+"}")
		givesBody(t, "b * c "+x.atom, "{Binary b * {Apply c "+x.want+"}}")
	}
	gives(t, "let x = f _ a", "{Doc {Decl let x = f} {Skipped _ a} EOF}")
	gives(t, "let x = _", "{Doc {Decl let x = ?expr} {Skipped _} EOF}")
	gives(t, "let x = f fun a -> b", "{Doc {Decl let x = f} {Skipped fun a -> b} EOF}")
	gives(t, "let x = f a let y = b", "{Doc {Decl let x = {Apply f a}} {Decl let y = b} EOF}")
}
