package relex

import (
	"slices"
	"testing"

	"rostrum/api"
)

// rows are all lists of up to so many of some elements.
func rows[E any](elements []E, most int) [][]E {
	l := [][]E{nil}
	if most == 0 {
		return l
	}
	for _, shorter := range rows(elements, most-1) {
		for _, x := range elements {
			l = append(l, append([]E{x}, shorter...))
		}
	}
	return l
}

// counts holds common of each two of the lists against all numbers that it could be.
func counts[E comparable](t *testing.T, lists [][]E) {
	t.Helper()
	for _, a := range lists {
		for _, b := range lists {
			ahead, behind := common(a, b)
			fits := func(ahead, behind int) bool {
				most := min(len(a), len(b))
				return ahead+behind <= most && slices.Equal(a[:ahead], b[:ahead]) && slices.Equal(a[len(a)-behind:], b[len(b)-behind:])
			}
			if !fits(ahead, behind) || fits(ahead+1, 0) || fits(ahead, behind+1) {
				t.Fatalf("common(%v, %v): %d, %d", a, b, ahead, behind)
			}
		}
	}
}

// P10.1: what is kept, of lists of any elements.
func TestCommon(t *testing.T) {
	counts(t, rows([]int{1, 2}, 6))
	counts(t, rows([]string{"a", "b", ""}, 4))
	counts(t, rows([]api.Token{{Kind: api.Name, Text: "a"}, {Kind: api.Name, Text: "b"}, {Kind: api.Bad, Text: "a"}}, 4))
}

// P10.1: a token is the same if both its Kind and its text are.
func TestCommonTokens(t *testing.T) {
	name, other, bad := api.Token{Kind: api.Name, Text: "a"}, api.Token{Kind: api.Name, Text: "b"}, api.Token{Kind: api.Bad, Text: "a"}
	for _, x := range []struct {
		a, b          []api.Token
		ahead, behind int
	}{
		{[]api.Token{name}, []api.Token{name}, 1, 0},
		{[]api.Token{name}, []api.Token{other}, 0, 0},
		{[]api.Token{name}, []api.Token{bad}, 0, 0},
		{[]api.Token{name, other, name}, []api.Token{name, bad, name}, 1, 1},
		{[]api.Token{bad, name, other}, []api.Token{name, name, other}, 0, 2},
		{[]api.Token{other, name, bad}, []api.Token{other, name, name}, 2, 0},
		{nil, []api.Token{name}, 0, 0},
		{[]api.Token{name, name}, nil, 0, 0},
	} {
		if ahead, behind := common(x.a, x.b); ahead != x.ahead || behind != x.behind {
			t.Errorf("common(%v, %v): %d, %d", x.a, x.b, ahead, behind)
		}
	}
}
