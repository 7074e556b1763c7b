package lsp_test

import (
	"math"
	"math/big"
	"strings"
	"testing"

	"rostrum/api"
	"rostrum/json"
	"rostrum/lsp"
)

// S7, P8.2: the capabilities.
func TestCaps(t *testing.T) {
	const want = `{"capabilities":{"diagnostic":true,"definition":true,"formatting":true,"hover":true,"rename":true,"sync":2}}`
	if s := printed(t, lsp.Caps()); s != want {
		t.Errorf("Caps: %s", s)
	}
}

// span is a range by four numbers.
func span(a, b, c, d int) api.Range {
	return api.Range{Start: api.Pos{Line: a, Char: b}, End: api.Pos{Line: c, Char: d}}
}

// prints: a value is valid, and has a text.
func prints(t *testing.T, j api.Json, want string) {
	t.Helper()
	if s := printed(t, j); s != want {
		t.Errorf("%s, not %s", s, want)
	}
}

// P8.2: by hand, for no part, one and several.
func TestAnswers(t *testing.T) {
	one := lsp.Part{Range: span(0, 1, 2, 3), Code: 4, Text: "a\n\"\u20ac"}
	two := lsp.Part{Range: span(10, 200, 3000, 41), Code: -6, Text: ""}
	const first, second = `{"start":{"line":0,"character":1},"end":{"line":2,"character":3}}`, `{"start":{"line":1e1,"character":2e2},"end":{"line":3e3,"character":41}}`
	const quoted = `"a\n\"` + "\u20ac" + `"`
	prints(t, lsp.Edits(3, nil), `{"version":3,"edits":[]}`)
	prints(t, lsp.Edits(0, []lsp.Part{}), `{"version":0,"edits":[]}`)
	prints(t, lsp.Edits(10, []lsp.Part{one}), `{"version":1e1,"edits":[{"range":`+first+`,"newText":`+quoted+`}]}`)
	prints(t, lsp.Edits(1, []lsp.Part{two, one, two}), `{"version":1,"edits":[{"range":`+second+`,"newText":""},{"range":`+first+`,"newText":`+quoted+`},{"range":`+second+`,"newText":""}]}`)
	prints(t, lsp.Place(3, nil), `{"version":3,"range":null}`)
	prints(t, lsp.Place(3, []lsp.Part{}), `{"version":3,"range":null}`)
	prints(t, lsp.Place(4, []lsp.Part{{}}), `{"version":4,"range":{"start":{"line":0,"character":0},"end":{"line":0,"character":0}}}`)
	prints(t, lsp.Place(5, []lsp.Part{one}), `{"version":5,"range":`+first+`}`)
	prints(t, lsp.Place(5, []lsp.Part{two, one}), `{"version":5,"range":`+second+`}`)
	prints(t, lsp.Items(3, nil), `{"version":3,"items":[]}`)
	prints(t, lsp.Items(6, []lsp.Part{one}), `{"version":6,"items":[{"range":`+first+`,"code":4,"message":`+quoted+`}]}`)
	prints(t, lsp.Items(6, []lsp.Part{one, two}), `{"version":6,"items":[{"range":`+first+`,"code":4,"message":`+quoted+`},{"range":`+second+`,"code":-6,"message":""}]}`)
	prints(t, lsp.Shown(1, "int", "1"), `{"version":1,"type":"int","value":"1"}`)
	prints(t, lsp.Shown(2, "", ""), `{"version":2,"type":null,"value":null}`)
	prints(t, lsp.Shown(3, "'a -> 'b", ""), `{"version":3,"type":"'a -> 'b","value":null}`)
	prints(t, lsp.Shown(4, "", "\"\\\""), `{"version":4,"type":null,"value":"\"\\\""}`)
	prints(t, lsp.Shown(5, " ", "null"), `{"version":5,"type":" ","value":"null"}`)
	prints(t, lsp.Log(-32803, "refused: 6"), `{"code":-32803,"message":"refused: 6"}`)
	prints(t, lsp.Log(0, ""), `{"code":0,"message":""}`)
	prints(t, lsp.Log(-32600, "\x00\U0001d11e"), `{"code":-326e2,"message":"\u0000`+"\U0001d11e"+`"}`)
}

// extremes are numbers at the edges.
var extremes = []int{0, 1, -1, 10, 100, -1000, 1<<31 - 1, 1 << 31, -1 << 31, 1 << 32, 1 << 53, 1<<62 + 1, math.MaxInt, math.MinInt, 9000000000000000000}

// P8.2: any numbers, in their canonical forms.
func TestNumbers(t *testing.T) {
	value := func(j api.Json) *big.Rat {
		n, ok := new(big.Rat).SetString(j.Text)
		if !ok {
			t.Fatalf("no number: %s", describe(j))
		}
		return n
	}
	for _, n := range extremes {
		pos := api.Pos{Line: n, Char: n}
		l := []lsp.Part{{Range: api.Range{Start: pos, End: pos}, Code: n}}
		for _, j := range []api.Json{lsp.Edits(n, l), lsp.Place(n, l), lsp.Items(n, l), lsp.Shown(n, "a", "b"), lsp.Log(n, "")} {
			printed(t, j) // valid: every number is canonical
			found := 0
			var look func(j api.Json)
			look = func(j api.Json) {
				if j.Kind == api.Number {
					found++
					if value(j).Cmp(new(big.Rat).SetInt64(int64(n))) != 0 {
						t.Errorf("%s, not %d", j.Text, n)
					}
				}
				for _, part := range j.List {
					look(part)
				}
			}
			look(j)
			if found == 0 {
				t.Errorf("no number in %s", describe(j))
			}
		}
	}
}

// P8.2: texts are unchanged, also those that could not be printed.
func TestTexts(t *testing.T) {
	for _, s := range []string{"a", " ", "\x00\x1f", "\u00e9\u20ac\U0001d11e", "\xff", "a\xc3", "null", strings.Repeat("x", api.MaxJSON+1)} {
		l := []lsp.Part{{Text: s}}
		edits, items, shown, log := lsp.Edits(1, l), lsp.Items(1, l), lsp.Shown(1, s, s), lsp.Log(1, s)
		for _, j := range []api.Json{edits.List[1].List[0].List[1], items.List[1].List[0].List[2], shown.List[1], shown.List[2], log.List[1]} {
			if !json.Same(j, str(s)) {
				t.Errorf("%.20q, not %.20q", j.Text, s)
			}
		}
	}
}

// P8.2: as many parts as there are, in their order.
func TestManyParts(t *testing.T) {
	var l []lsp.Part
	for i := range 3000 {
		l = append(l, lsp.Part{Range: span(i, 2*i, 3*i, 4*i), Code: 5 * i, Text: strings.Repeat("x", i%7)})
	}
	edits, items := lsp.Edits(1, l), lsp.Items(1, l)
	if len(edits.List[1].List) != len(l) || len(items.List[1].List) != len(l) {
		t.Fatalf("%d edits, %d items", len(edits.List[1].List), len(items.List[1].List))
	}
	for i, p := range l {
		at := lsp.Place(1, l[i:]).List[1]
		edit, item := edits.List[1].List[i], items.List[1].List[i]
		if !json.Same(edit, obj("range newText", at, str(p.Text))) || !json.Same(item, obj("range code message", at, lsp.Log(p.Code, "").List[0], str(p.Text))) {
			t.Fatalf("part %d: %s, %s", i, describe(edit), describe(item))
		}
	}
}

// P8.4: a range that is written is read as that range, whichever answer it comes from, also after it was printed.
func TestRangeBack(t *testing.T) {
	counts := []int{0, 1, 2, 9, 10, 11, 99, 100, 65536, 1000000, 1<<31 - 2, 1<<31 - 1}
	var ranges []api.Range
	for i, a := range counts {
		for k, b := range counts {
			ranges = append(ranges, span(a, b, b, a), span(a, a, b, b), span(a, b, counts[(i+k)%len(counts)], counts[(i*k+1)%len(counts)]))
		}
	}
	for _, x := range ranges {
		l := []lsp.Part{{Range: x, Code: 1, Text: "t"}}
		item, _ := json.Get(lsp.Items(1, l).List[1].List[0], "range")
		edit, _ := json.Get(lsp.Edits(1, l).List[1].List[0], "range")
		place, _ := json.Get(lsp.Place(1, l), "range")
		for _, at := range []api.Json{item, edit, place, parse(printed(t, place))} {
			change := obj("textDocument contentChanges", obj("uri version", str("a"), num("1")), arr(obj("range text", at, str("t"))))
			gives(t, methods[lsp.DidChange], change, lsp.Message{Kind: lsp.DidChange, URI: "a", Version: 1, Changes: []lsp.Change{{Range: x, Text: "t"}}})
			for _, end := range []struct {
				name string
				pos  api.Pos
			}{{"start", x.Start}, {"end", x.End}} {
				pos, _ := json.Get(at, end.name)
				gives(t, methods[lsp.Hover], obj("textDocument position", obj("uri", str("a")), pos), lsp.Message{Kind: lsp.Hover, URI: "a", Pos: end.pos})
			}
		}
	}
	// What is no range of counts is written, but not read.
	for _, n := range []int{-1, 1 << 31, math.MinInt, math.MaxInt} {
		at := lsp.Place(1, []lsp.Part{{Range: span(0, 0, 0, n)}}).List[1]
		change := obj("textDocument contentChanges", obj("uri version", str("a"), num("1")), arr(obj("range text", at, str("t"))))
		refuses(t, methods[lsp.DidChange], change, api.ErrParams)
	}
}
