package relex_test

import (
	"strings"
	"testing"

	"rostrum/api"
	"rostrum/relex"
)

// keeps: what Relex keeps of a text.
func keeps(t *testing.T, s string, e api.Edit, ahead, behind int) {
	t.Helper()
	holds(t, s, e)
	if _, k, err := relex.Relex(s, e); err != api.OK || k != (relex.Kept{Ahead: ahead, Behind: behind}) {
		t.Errorf("Relex(%q, %s): %v, %v, not %d, %d", s, told(e), k, err, ahead, behind)
	}
}

// P10.1: all tokens are kept, ahead, by each edit that changes nothing.
func TestAllKept(t *testing.T) {
	for _, x := range []struct {
		text  string
		count int
	}{{"", 0}, {"a", 1}, {"let x = 1", 7}, {"((((", 4}, {"a b a b a", 9}, {"(* a", 1}, {"\u00e9\u00e9", 2}} {
		eachSpan(len(x.text), func(from, to int) {
			keeps(t, x.text, edit(from, to, x.text[from:to]), x.count, 0)
		})
	}
}

// P10.1: none is kept.
func TestNoneKept(t *testing.T) {
	keeps(t, "a", edit(0, 1, "b"), 0, 0)
	keeps(t, "a", edit(0, 1, ""), 0, 0)
	keeps(t, "", edit(0, 0, "a"), 0, 0)
	keeps(t, "a+b", edit(0, 3, "c-d"), 0, 0)
	keeps(t, "a+b", edit(0, 3, "b+a"), 0, 0)
	keeps(t, "a+b", edit(0, 0, "(*"), 0, 0)
	keeps(t, "a b", edit(1, 2, ""), 0, 0)
	keeps(t, "(* a *) b c", edit(5, 6, ""), 0, 0)
	keeps(t, "(+)", edit(0, 3, "[-]"), 0, 0)
}

// P10.1: where the same tokens stand again and again, those that Ahead counts are not counted behind, in neither sequence.
func TestRepeatedKept(t *testing.T) {
	for size := range 8 {
		s := strings.Repeat("(", size)
		for at := range size + 1 {
			for more := range 5 {
				keeps(t, s, edit(at, at, strings.Repeat("(", more)), size, 0)
			}
			for to := at; to <= size; to++ {
				keeps(t, s, edit(at, to, ""), size-(to-at), 0)
				keeps(t, s, edit(at, to, "(("), min(size, size-(to-at)+2), 0)
				keeps(t, s, edit(at, to, ")"), at, size-to)
			}
		}
	}
	keeps(t, "a a a", edit(1, 3, ""), 3, 0)
	keeps(t, "a a a", edit(2, 4, ""), 3, 0)
	keeps(t, "a a a", edit(0, 2, ""), 3, 0)
	keeps(t, "a a a", edit(0, 0, "a "), 5, 0)
	keeps(t, "a a a", edit(5, 5, " a"), 5, 0)
	keeps(t, "a,a;a,a", edit(1, 5, ""), 3, 0)
	keeps(t, "a,a;a,a", edit(3, 4, ","), 3, 3)
	keeps(t, "a,a;a,a", edit(3, 3, ";a"), 5, 2)
	keeps(t, "a,a;a,a", edit(3, 5, ""), 3, 2)
	keeps(t, "()()", edit(0, 2, ""), 2, 0)
	keeps(t, "()()", edit(1, 3, ""), 2, 0)
	keeps(t, "()()", edit(1, 2, ""), 1, 2)
	keeps(t, "()()", edit(2, 3, ")"), 2, 1)
	keeps(t, "()()", edit(2, 2, "()"), 4, 0)
	keeps(t, "())", edit(1, 2, "))"), 3, 0)
	keeps(t, "(()", edit(1, 1, "("), 2, 1)
}

// P10.1: kinds that are the same with texts that are not, and the other way round as far as it goes: what begins with the same text.
func TestKindsAndTexts(t *testing.T) {
	keeps(t, "a+b", edit(0, 1, "b"), 0, 2)
	keeps(t, "a+b", edit(1, 2, "-"), 1, 1)
	keeps(t, "a+b", edit(2, 3, "a"), 2, 0)
	keeps(t, "1+2+3", edit(2, 3, "3"), 2, 2)
	keeps(t, "1+2", edit(0, 3, "2+1"), 0, 0)
	keeps(t, `"a" "b"`, edit(1, 2, "b"), 0, 2)
	keeps(t, "  a", edit(0, 1, "\n"), 0, 1)
	keeps(t, "(**)(* *)", edit(2, 2, " "), 0, 1)
	keeps(t, "let", edit(3, 3, "s"), 0, 0)
	keeps(t, "lets x", edit(3, 4, ""), 0, 2)
	keeps(t, "a let", edit(2, 2, "_"), 2, 0)
	keeps(t, "_ x", edit(1, 2, ""), 0, 0)
	keeps(t, "1.0e23 x", edit(5, 6, "4"), 0, 2)
	keeps(t, "1 x", edit(1, 1, "."), 0, 2)
	keeps(t, `"a"x`, edit(1, 1, `\q`), 0, 1)
	keeps(t, "\u00e9-\u00e9", edit(0, 2, "\u00e8"), 0, 2)
}

// P10.4: where a token ends may depend on up to three bytes behind it; nearer edits change it, one behind these three does not.
func TestThreeBytes(t *testing.T) {
	for _, sign := range []string{"e+", "e-", "E+", "E-"} {
		s := "a 1.5" + sign
		keeps(t, s+"x", edit(8, 8, "3"), 5, 0)
		keeps(t, s+"3", edit(8, 8, "3"), 2, 0)
		keeps(t, s+"x", edit(7, 7, "3"), 2, 1)
		keeps(t, s+"x", edit(7, 8, "3"), 2, 0)
		keeps(t, s+"3", edit(7, 8, ""), 2, 0)
		keeps(t, s+"3", edit(7, 8, "x"), 2, 0)
		keeps(t, s, edit(7, 7, "3"), 2, 0)
		keeps(t, s, edit(7, 7, " "), 5, 0)
		keeps(t, s[:6], edit(6, 6, "3"), 2, 0)
		keeps(t, s[:6], edit(6, 6, sign[1:]), 4, 0)
		keeps(t, s[:5], edit(5, 5, sign+"3"), 2, 0)
		keeps(t, s[:5], edit(5, 5, sign), 3, 0)
	}
	keeps(t, "a 1.5e3x", edit(7, 7, "4"), 2, 1)
	keeps(t, "a 1.5e3x", edit(6, 6, "-"), 2, 1)
	keeps(t, "a 1.0e23+x", edit(8, 8, "0"), 2, 2)
	keeps(t, "a 1.0e24+x", edit(8, 8, "0"), 2, 2)
	keeps(t, "a 1.0e24x", edit(9, 9, "0"), 3, 0)
}

// P10.4: what opens at the end of the text, and what reaches over all that follows, from the edit on alone.
func TestAheadOfRemarks(t *testing.T) {
	calm := "let f x = (* a *) x + 1.5 in f \"b\" "
	const count = 22
	for _, opened := range []string{"(*", "(* c", "\"", "\"\\", "\"\\q ", "(*(**)"} {
		keeps(t, calm, edit(len(calm), len(calm), opened), count, 0)
		keeps(t, calm+opened, edit(len(calm), len(calm)+len(opened), ""), count, 0)
		keeps(t, calm+opened, edit(len(calm)+len(opened), len(calm)+len(opened), " d"), count, 0)
	}
	keeps(t, calm+"x", edit(0, 0, "(*"), 0, 0)
	keeps(t, calm+"x", edit(4, 4, "(*"), 2, 0)
	keeps(t, calm+"*)x", edit(0, 0, "(*"), 0, 1)
}
