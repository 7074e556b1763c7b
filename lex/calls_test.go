package lex_test

import (
	"slices"
	"strings"
	"testing"

	"rostrum/api"
	"rostrum/lex"
)

// refused: neither Tokens nor One has a result for a text.
func refused(t *testing.T, s string, want api.Errno) {
	t.Helper()
	if l, e := lex.Tokens(s); len(l) > 0 || e != want {
		t.Errorf("Tokens(%s): %s, %v, not %v", short(s), list(l), e, want)
	}
	if one, e := lex.One(s); (one != api.Token{}) || e != want {
		t.Errorf("One(%s): %s, %v, not %v", short(s), list([]api.Token{one}), e, want)
	}
}

// wrongBytes: stray bytes of all kinds: without what belongs before or after them, too long, a half of two units, too large, and those that are nowhere.
func wrongBytes() []string {
	return []string{"\x80", "\xbf", "\xc3", "\xc0\x80", "\xc1\xbf", "\xe2", "\xe2\x82", "\xe0\x80\x80", "\xe0\x9f\xbf", "\xed\xa0\x80", "\xed\xbf\xbf", "\xf0", "\xf0\x9d", "\xf0\x9d\x84", "\xf0\x8f\xbf\xbf", "\xf4\x90\x80\x80", "\xf5\x80\x80\x80", "\xfe", "\xff", "\xc3\xc3\xa9", "\xc3\xa9\xa9"}
}

// Errors: a text that is not valid, wherever it is not.
func TestInvalid(t *testing.T) {
	for _, s := range wrongBytes() {
		for _, ahead := range []string{"", "a", " ", "1.5", "(*", "\"", "\"\\", "\u00e9", "(* a *)", "\"a\"", "let x = "} {
			for _, behind := range []string{"", "a", " ", "*)", "\"", "\n", "1"} {
				refused(t, ahead+s+behind, api.ErrForm)
			}
		}
	}
}

// Errors: MaxText bytes, and one more; of both errors the size is the first one.
func TestLimit(t *testing.T) {
	for _, x := range []struct {
		kinds string
		texts []string
	}{
		{"x", []string{"A"}}, {"s", []string{";"}}, {"s", []string{"->"}}, {"s", []string{"&&"}}, {"r", []string{"(**)"}}, {"t", []string{`""`}}, {"xb", []string{`"a`, "\n"}}, {"xb", []string{`"\q"`, " "}}, {"fx", []string{"1.1", "."}}, {"fnsb", []string{"1.", "e", "+", " "}},
		{"x", []string{"\u00e9"}}, {"x", []string{"\u20ac"}}, {"x", []string{"\U0001d11e"}}, {"sbnb", []string{"_", "\r\n", "a'", "\t"}},
	} {
		s := strings.Join(x.texts, "")
		times := api.MaxText / len(s)
		more := api.MaxText - times*len(s)
		kinds := strings.Repeat(x.kinds, times) + strings.Repeat("s", more)
		texts := append(slices.Repeat(x.texts, times), slices.Repeat([]string{","}, more)...)
		splits(t, kinds, texts...)
		whole := strings.Join(texts, "")
		refused(t, whole+" ", api.ErrTooLarge)
		refused(t, "a"+whole, api.ErrTooLarge)
		refused(t, whole+whole, api.ErrTooLarge)
		refused(t, whole+"\xff", api.ErrTooLarge)
		refused(t, "\xff"+whole, api.ErrTooLarge)
		refused(t, "\xff"+whole[len(s):], api.ErrForm)
		refused(t, whole[len(s):]+"\x80", api.ErrForm)
	}
}

// Errors: tokens of MaxText bytes, and of more.
func TestLimitOfOne(t *testing.T) {
	for _, x := range []struct{ kind, start, more, end string }{{"b", "", "\n", ""}, {"r", "(*", "a", "*)"}, {"x", "(*", "\u00e9", "**"}, {"n", "a", "'", ""}, {"i", "", "7", ""}, {"f", "1.e", "0", "7"}, {"x", "1.", "5", ""}, {"t", "\"", "a", "\""}, {"t", "\"", "\\n", "\""}, {"x", "\"", "a", ""}, {"x", "\"\\q", "a", "\""}} {
		room := api.MaxText - len(x.start) - len(x.end)
		more := strings.Repeat(x.more, room/len(x.more))
		s := x.start + more + strings.Repeat("a", room-len(more)) + x.end
		splits(t, x.kind, s)
		if one, e := lex.One(s); e != api.OK || one != token(x.kind[0], s) {
			t.Errorf("One(%s): %v", short(s), e)
		}
		refused(t, x.start+x.more+more+x.end, api.ErrTooLarge)
	}
}

// P9.1: One is the token that is the whole text; ErrForm if there are none or more than one.
func TestOne(t *testing.T) {
	refused(t, "\xff", api.ErrForm)
	if l, e := lex.Tokens(""); len(l) > 0 || e != api.OK {
		t.Errorf("Tokens of no text: %s, %v", list(l), e)
	}
	if one, e := lex.One(""); (one != api.Token{}) || e != api.ErrForm {
		t.Errorf("One of no text: %v, %v", one, e)
	}
	for _, x := range []struct{ kind, text string }{{"b", " \n"}, {"r", "(* a (**) *)"}, {"w", "mod"}, {"n", "x'"}, {"i", "007"}, {"f", "1.5e-3"}, {"t", `"a\""`}, {"s", "_"}, {"s", "<>"}, {"x", "1.0e24"}, {"x", "\u00e9"}, {"x", "(*a b c\n"}, {"x", `"a b`}, {"x", `"\q b"`}} {
		if one, e := lex.One(x.text); one != token(x.kind[0], x.text) || e != api.OK {
			t.Errorf("One(%q): %v, %v", x.text, one, e)
		}
	}
	for _, s := range []string{"a ", " a", "a b", "--", "1e5", "1.e", "let(", "(**) ", "\"a\n", "\"\"\"", "\u00e9\u00e9", "<>>", "()", "1.0e24.", "a\nb\nc", "(**)(**)"} {
		if one, e := lex.One(s); (one != api.Token{}) || e != api.ErrForm {
			t.Errorf("One(%q): %v, %v", s, one, e)
		}
	}
}

// P9.2: pairs, one by one.
func TestApart(t *testing.T) {
	for _, x := range []struct {
		kinds, a, b string
		want        bool
	}{
		{"ss", "-", ">", false}, {"ss", "->", ">", true}, {"ss", "-", "->", true}, {"sn", "-", "a", true}, {"nn", "a", "a", false}, {"ns", "a", "_", false}, {"sn", "_", "a", false}, {"ss", "_", "_", false},
		{"wn", "let", "x", false}, {"wi", "let", "1", false}, {"iw", "1", "let", true}, {"ws", "let", "(", true}, {"nx", "a", "'", false}, {"xn", "'", "a", true}, {"xn", "A", "b", true}, {"nx", "a", "B", false},
		{"ii", "1", "2", false}, {"if", "1", "2.", false}, {"fi", "1.", "2", false}, {"in", "1", "e5", true}, {"fn", "1.", "e5", false}, {"fn", "1.", "e", true}, {"fn", "1.5e3", "e5", true}, {"ff", "1.", "2.", false}, {"ix", "1", ".", false}, {"xi", ".", "1", true}, {"fx", "1.", ".", true}, {"xn", "1.0e99", "e", true}, {"xi", "1.0e99", "9", false}, {"fx", "1.", "E", true}, {"fi", "1.e1", "000", false},
		{"bb", " ", " ", false}, {"bb", "\n", "\r", false}, {"bn", " ", "a", true}, {"nb", "a", " ", true}, {"rb", "(**)", " ", true}, {"br", " ", "(**)", true}, {"rr", "(**)", "(**)", true}, {"ss", "(", "*", false}, {"ss", "(", "*.", false}, {"ss", "*", ")", true}, {"sr", "(", "(**)", true}, {"xb", "(* a", "\n", false}, {"xr", "(* a", "(**)", false}, {"xs", "(*", ")", false}, {"rx", "(**)", "(*", true}, {"sx", "*", "(*", true},
		{"tt", `""`, `""`, true}, {"xb", `"a`, "\n", true}, {"xb", `"a`, " \n", false}, {"xb", `"a`, "\n ", true}, {"xn", `"a`, "b", false}, {"xx", `"a`, `"`, false}, {"xt", `"\q"`, `""`, true}, {"xb", `"\`, "\n", true}, {"xn", `"\`, "n", false}, {"xx", `"\q`, `"`, false}, {"tx", `""`, `"a`, true}, {"xt", `"\`, `""`, false},
		{"ss", "<", ">", false}, {"ss", "<", "=", false}, {"ss", "<", ">=", false}, {"ss", "|", "|", false}, {"ss", "||", "|", true}, {"ss", "|", "||", false}, {"sx", "&&", "&", true}, {"xs", "&", "&&", false}, {"xx", "&", "&", false}, {"xx", ":", ":", false}, {"sx", "::", ":", true}, {"sx", "+", ".", false}, {"xs", ".", "+", true}, {"ss", "=", ">", true}, {"ss", "-", "-.", true}, {"ss", "-.", ">", true}, {"xx", "\u00e9", "\u00e9", true}, {"ss", "(", ")", true}, {"sx", "/", ".", false},
	} {
		a, b := token(x.kinds[0], x.a), token(x.kinds[1], x.b)
		if got := lex.Apart(a, b); got != x.want {
			t.Errorf("Apart(%q, %q): %v", x.a, x.b, got)
		}
	}
}

// P9.2: all pairs of tokens of all kinds, against the model.
func TestApartPairs(t *testing.T) {
	l := everyToken()
	seen := [10]int{}
	for _, a := range l {
		seen[a.Kind]++
		for _, b := range l {
			want := slices.Equal(model(a.Text+b.Text), []api.Token{a, b})
			if got := lex.Apart(a, b); got != want {
				t.Fatalf("Apart(%v, %v): %v", a, b, got)
			}
		}
	}
	if slices.Contains(seen[1:], 0) {
		t.Errorf("tokens of each Kind: %v", seen)
	}
}

// P9.2: false for tokens whose texts are not of their Kinds, are empty, are more or less than one token, or are no valid text, together or one by one.
func TestApartOfNone(t *testing.T) {
	minus, name := token('s', "-"), token('n', "a")
	if !lex.Apart(minus, name) {
		t.Fatal("Apart of a Sign and a Name")
	}
	for kind := range 256 {
		other := api.Token{Kind: uint8(kind), Text: "a"}
		if got := lex.Apart(minus, other); got != (other.Kind == api.Name) {
			t.Errorf("Apart of a Sign and a Name with the Kind %d: %v", kind, got)
		}
		other = api.Token{Kind: uint8(kind), Text: "-"}
		if got := lex.Apart(other, name); got != (other.Kind == api.Sign) {
			t.Errorf("Apart of a Sign with the Kind %d and a Name: %v", kind, got)
		}
		empty := api.Token{Kind: uint8(kind)}
		for _, x := range everyToken() {
			if lex.Apart(x, empty) || lex.Apart(empty, x) || lex.Apart(empty, empty) {
				t.Fatalf("Apart of %v and an empty text of the Kind %d", x, kind)
			}
		}
	}
	for _, x := range [][2]api.Token{
		{token('s', "--"), name}, {minus, token('n', "a b")}, {minus, token('n', "a-")}, {token('n', "a"), token('s', "->-")}, {token('s', "-a"), token('s', "-")},
		{token('s', "-"), token('s', "a")}, {token('n', "a-"), token('n', "b")}, {token('n', "ab"), token('s', "-c")}, {token('i', "1"), token('n', " a")},
		// Together two tokens, but cut elsewhere, also within a character.
		{token('n', "a-"), token('s', "")}, {token('n', ""), token('n', "a-")}, {token('s', "("), token('r', "**)")}, {token('n', "le"), token('w', "t")},
		{token('x', "\xc3"), token('x', "\xa9")}, {token('x', "\u00e9\xc3"), token('x', "\xa9")}, {token('x', "\xc3"), token('x', "\xa9\u00e9")}, {token('t', "\"\xf0\x9d"), token('t', "\x84\x9e\"")}, {token('n', "a\xc3"), token('x', "\xa9")},
	} {
		if lex.Apart(x[0], x[1]) {
			t.Errorf("Apart(%v, %v)", x[0], x[1])
		}
	}
	for _, s := range wrongBytes() {
		for _, wrong := range []api.Token{token('x', s), token('x', s[:1]), token('n', s), token('r', "(*"+s+"*)"), token('t', "\""+s+"\"")} {
			for _, x := range append(everyToken(), wrong) {
				if lex.Apart(wrong, x) || lex.Apart(x, wrong) {
					t.Fatalf("Apart of %v and %v", wrong, x)
				}
			}
		}
	}
}

// P9.2 names no limit: two tokens may together have more than MaxText bytes.
func TestApartOfLong(t *testing.T) {
	long := func(s string) string { return strings.Repeat(s, api.MaxText) }
	for _, x := range []struct {
		a, b api.Token
		want bool
	}{
		{token('b', long(" ")), token('n', long("a")), true},
		{token('n', long("a")), token('b', long("\n")), true},
		{token('n', long("a")), token('n', long("a")), false},
		{token('r', "(*"+long("(**)")+"*)"), token('r', "(**)"), true},
		{token('r', "(*"+long("(*")+"*)"), token('r', "(**)"), false},
		{token('n', long("a")), token('x', "\xff"), false},
		{token('s', "-"), token('s', long("-")), false},
	} {
		if got := lex.Apart(x.a, x.b); got != x.want {
			t.Errorf("Apart(%s, %s): %v", short(x.a.Text), short(x.b.Text), got)
		}
	}
}

// P9.2: Ahead of each kind, whatever the text is.
func TestAhead(t *testing.T) {
	for kind := range 256 {
		want := kind == 1 || kind == 2
		for _, s := range []string{"", " ", "(**)", "a", "\xff", "let"} {
			if got := lex.Ahead(api.Token{Kind: uint8(kind), Text: s}); got != want {
				t.Errorf("Ahead of Kind %d, %q: %v", kind, s, got)
			}
		}
	}
	for s, want := range map[string]bool{" ": true, "\n\r\t ": true, "(* a *)": true, "(*)*)": true, "(*": false, "let": false, "a": false, "_": false, "1": false, "1.": false, "\"\"": false, "*": false, "\x0b": false} {
		if one, e := lex.One(s); e != api.OK || lex.Ahead(one) != want {
			t.Errorf("Ahead of %q: %v, %v", s, !want, e)
		}
	}
}

// P9.1: Join of none, of one and of many, whatever they are.
func TestJoin(t *testing.T) {
	for _, x := range []struct {
		want  string
		texts []string
	}{{"", nil}, {"", []string{""}}, {"", []string{"", "", ""}}, {"a", []string{"a"}}, {"ab", []string{"a", "b"}}, {"ba", []string{"b", "", "a", ""}}, {"\u00e9", []string{"\xc3", "\xa9"}}, {"\xff--", []string{"\xff", "--"}}} {
		var l []api.Token
		for kind, text := range x.texts {
			l = append(l, api.Token{Kind: uint8(kind * 50), Text: text})
		}
		if got := lex.Join(l); got != x.want {
			t.Errorf("Join(%v): %q", l, got)
		}
	}
	if lex.Join([]api.Token{}) != "" {
		t.Error("Join of no tokens")
	}
	many := slices.Repeat([]api.Token{token('n', "abc"), token('b', "\n")}, 100000)
	if lex.Join(many) != strings.Repeat("abc\n", 100000) {
		t.Error("Join of many tokens")
	}
}
