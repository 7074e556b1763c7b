package lsp_test

import (
	"math"
	"slices"
	"strconv"
	"strings"
	"testing"

	"rostrum/api"
	"rostrum/lsp"
)

// P8.1: the message of each method, by hand.
func TestDecode(t *testing.T) {
	pos := api.Pos{Line: 1, Char: 2}
	at := api.Range{Start: pos, End: api.Pos{Line: 3, Char: 4}}
	const place = `{"textDocument":{"uri":"a"},"position":{"line":1,"character":2}}`
	for _, x := range []struct {
		method, params string
		want           lsp.Message
	}{
		{"initialize", `{}`, lsp.Message{Kind: 1}},
		{"initialize", `{"rootUri":null,"capabilities":{"hover":{}}}`, lsp.Message{Kind: 1}},
		{"shutdown", `null`, lsp.Message{Kind: 2}},
		{"shutdown", `{"id":1}`, lsp.Message{Kind: 2}},
		{"textDocument/formatting", `{"textDocument":{"uri":"a"},"width":100}`, lsp.Message{Kind: 3, URI: "a", Width: 100}},
		{"textDocument/formatting", `{"textDocument":{"uri":"a"}}`, lsp.Message{Kind: 3, URI: "a", Width: 80}},
		{"textDocument/formatting", `{"textDocument":{"uri":""},"width":2e1,"position":{"line":1,"character":2}}`, lsp.Message{Kind: 3, Width: 20}},
		{"textDocument/rename", `{"textDocument":{"uri":"a"},"position":{"line":1,"character":2},"newName":"b"}`, lsp.Message{Kind: 4, URI: "a", Pos: pos, Text: "b"}},
		{"textDocument/rename", `{"textDocument":{"uri":"a","version":7,"text":"t"},"position":{"line":0,"character":0},"newName":"","width":50}`, lsp.Message{Kind: 4, URI: "a"}},
		{"textDocument/definition", place, lsp.Message{Kind: 5, URI: "a", Pos: pos}},
		{"textDocument/hover", place, lsp.Message{Kind: 6, URI: "a", Pos: pos}},
		{"textDocument/hover", `{"textDocument":{"uri":"\u20ac\n"},"position":{"line":10e-1,"character":2.0}}`, lsp.Message{Kind: 6, URI: "\u20ac\n", Pos: pos}},
		{"textDocument/diagnostic", place, lsp.Message{Kind: 7, URI: "a"}},
		{"initialized", `{}`, lsp.Message{Kind: 8}},
		{"initialized", `null`, lsp.Message{Kind: 8}},
		{"exit", `null`, lsp.Message{Kind: 9}},
		{"exit", `{"code":1}`, lsp.Message{Kind: 9}},
		{"$/cancelRequest", `{"id":"a"}`, lsp.Message{Kind: 10, ID: str("a")}},
		{"$/cancelRequest", `{"id":-100}`, lsp.Message{Kind: 10, ID: num("-1e2")}},
		{"textDocument/didOpen", `{"textDocument":{"uri":"a","version":3,"text":"let x = 1\n"}}`, lsp.Message{Kind: 11, URI: "a", Version: 3, Text: "let x = 1\n"}},
		{"textDocument/didOpen", `{"textDocument":{"text":"","uri":"","version":0}}`, lsp.Message{Kind: 11}},
		{"textDocument/didChange", `{"textDocument":{"uri":"a","version":3},"contentChanges":[]}`, lsp.Message{Kind: 12, URI: "a", Version: 3}},
		{"textDocument/didChange", `{"textDocument":{"uri":"a","version":3,"text":"t"},"contentChanges":[{"text":"q"},{"range":{"start":{"line":1,"character":2},"end":{"line":3,"character":4}},"text":""}],"text":"u"}`,
			lsp.Message{Kind: 12, URI: "a", Version: 3, Changes: []lsp.Change{{Whole: true, Text: "q"}, {Range: at}}}},
		{"textDocument/didClose", place, lsp.Message{Kind: 13, URI: "a"}},
	} {
		gives(t, x.method, parse(x.params), x.want)
	}
	for _, kind := range []uint8{lsp.Initialize, lsp.Shutdown, lsp.Initialized, lsp.Exit} {
		gives(t, methods[kind], zero, lsp.Message{Kind: kind})
	}
}

// P8.1: the numbers of the Kinds, and which method each one has; the empty text for all others.
func TestMethod(t *testing.T) {
	kinds := []uint8{lsp.Initialize, lsp.Shutdown, lsp.Formatting, lsp.Rename, lsp.Definition, lsp.Hover, lsp.Diagnostic, lsp.Initialized, lsp.Exit, lsp.Cancel, lsp.DidOpen, lsp.DidChange, lsp.DidClose}
	for i, kind := range kinds {
		if int(kind) != i+1 {
			t.Errorf("the Kind of %s is %d", methods[i+1], kind)
		}
	}
	for kind := range 256 {
		want := ""
		if kind < len(methods) {
			want = methods[kind]
		}
		for range 5 { // also where they are gone through in another order
			if got := lsp.Method(uint8(kind)); got != want {
				t.Errorf("Method(%d): %q, not %q", kind, got, want)
			}
		}
		if want == "" {
			continue
		}
		if m, e := lsp.Decode(lsp.Method(uint8(kind)), sample(uint8(kind))); e != api.OK || int(m.Kind) != kind {
			t.Errorf("Decode of %q: %+v, %v", want, m, e)
		}
	}
}

// P8.1: no such method, which comes before what is wrong with the params.
func TestNoMethod(t *testing.T) {
	wrong := []string{"", " ", "\x00", "\xff", "/", "$", "textDocument", "textDocument/", "textDocument/what", "hover", "cancelRequest", "window/logMessage", "Initialize", "initialise", "1", "textdocument/hover", "textDocument/Hover", "textDocument\\hover", "$/cancelrequest", "textDocument/didSave"}
	for _, method := range methods[1:] {
		wrong = append(wrong, method+" ", " "+method, method+"\x00", method[1:], method[:len(method)-1], strings.ToUpper(method), method+method)
	}
	for _, method := range wrong {
		if slices.Contains(methods[1:], method) {
			continue // initialized without its d
		}
		refuses(t, method, zero, api.ErrMethod)
		for _, params := range values {
			refuses(t, method, params, api.ErrMethod)
		}
		for kind := range len(methods) {
			refuses(t, method, sample(uint8(kind)), api.ErrMethod)
		}
	}
}

// each visits all Kinds.
func each(visit func(kind uint8)) {
	for kind := range len(methods) - 1 {
		visit(uint8(kind + 1))
	}
}

// P8.1: params that are not there, null, an Object, and of another kind, for each row of the table.
func TestParams(t *testing.T) {
	orNull := []uint8{lsp.Shutdown, lsp.Initialized, lsp.Exit}
	free := append([]uint8{lsp.Initialize}, orNull...)
	each(func(kind uint8) {
		if !holds(t, kind, sample(kind)) {
			t.Errorf("%s is given wrong params", methods[kind])
		}
		for _, x := range []struct {
			params api.Json
			right  bool
		}{
			{zero, slices.Contains(free, kind)},
			{api.Json{Text: "x"}, slices.Contains(free, kind)}, // of the Kind 0: there are none
			{null, slices.Contains(orNull, kind)},
			{obj(""), slices.Contains(free, kind)},
			{obj("x", null), slices.Contains(free, kind)},
			{arr(), false},
			{arr(sample(kind)), false},
			{yes, false},
			{no, false},
			{num("1"), false},
			{str(""), false},
			{str("a"), false},
			{api.Json{Kind: 8}, false},
			{api.Json{Kind: 255}, false},
		} {
			if holds(t, kind, x.params) != x.right {
				t.Errorf("%s: %s must be right: %v", methods[kind], describe(x.params), x.right)
			}
		}
		for _, params := range values {
			holds(t, kind, params)
		}
		for other := range 256 { // all members, but of another Kind
			params := sample(kind)
			params.Kind = uint8(other)
			if holds(t, kind, params) && params.Kind != api.Object && !slices.Contains(free, kind) {
				t.Errorf("%s: params of the Kind %d", methods[kind], other)
			}
		}
	})
}

// P8.1: each member absent, the zero Json, and of every value. Just width and range need not be there.
func TestMembers(t *testing.T) {
	right := 0
	each(func(kind uint8) {
		for _, path := range parts(kind) {
			whole := sample(kind)
			for _, value := range values {
				if holds(t, kind, inside(whole, path, func(api.Json) api.Json { return value })) {
					right++
				}
			}
			up, name := "", path
			if at := strings.LastIndex(path, "."); at >= 0 {
				up, name = path[:at], path[at+1:]
			}
			optional := name == "width" || name == "range"
			element := strings.HasPrefix(name, "0") || strings.HasPrefix(name, "1")
			for _, empty := range []api.Json{zero, {Names: []string{}, List: []api.Json{}}} {
				if holds(t, kind, inside(whole, path, func(api.Json) api.Json { return empty })) != optional {
					t.Errorf("%s: %s is the zero Json", methods[kind], path)
				}
			}
			if element {
				continue
			}
			if holds(t, kind, inside(whole, up, func(j api.Json) api.Json { return without(j, name) })) != optional {
				t.Errorf("%s: %s is absent", methods[kind], path)
			}
			for _, other := range []string{strings.ToUpper(name), name + " ", name[1:], ""} {
				if holds(t, kind, inside(whole, up, func(j api.Json) api.Json { return with(without(j, name), other, yes) })) != optional {
					t.Errorf("%s: %s as %q", methods[kind], path, other)
				}
			}
			// A name without a value.
			if holds(t, kind, inside(whole, up, func(j api.Json) api.Json {
				j = without(j, name)
				j.Names = append(j.Names, name)
				return j
			})) != optional {
				t.Errorf("%s: %s has no value", methods[kind], path)
			}
		}
	})
	if right < 100 {
		t.Errorf("just %d of them are right", right)
	}
	// null is a value.
	refuses(t, methods[lsp.Formatting], parse(`{"textDocument":{"uri":"a"},"width":null}`), api.ErrParams)
	refuses(t, methods[lsp.DidChange], parse(`{"textDocument":{"uri":"a","version":1},"contentChanges":[{"text":"","range":null}]}`), api.ErrParams)
	// So is one of no Kind that is not the zero Json.
	for _, value := range []api.Json{{Text: "x"}, {Names: []string{"x"}}, {List: []api.Json{zero}}} {
		refuses(t, methods[lsp.Formatting], with(sample(lsp.Formatting), "width", value), api.ErrParams)
		refuses(t, methods[lsp.DidChange], inside(sample(lsp.DidChange), "contentChanges.1.range", func(api.Json) api.Json { return value }), api.ErrParams)
	}
}

// numbers are texts of decimals, and their value, or that it is no count.
var numbers = []struct {
	text  string
	count int
}{
	{"0", 0}, {"1", 1}, {"-0", 0}, {"0e5", 0}, {"0.0", 0}, {"0e99999", 0}, {"10", 10}, {"1e1", 10}, {"1E+1", 10}, {"100e-1", 10}, {"1.0e1", 10}, {"2.50e2", 250}, {"7.000", 7}, {"1" + strings.Repeat("0", 300) + "e-300", 1},
	{"2147483647", math.MaxInt32}, {"2147483646", math.MaxInt32 - 1}, {"2.147483647e9", math.MaxInt32}, {"21474836470e-1", math.MaxInt32}, {"2e9", 2000000000},
	{"2147483648", -1}, {"2.147483648e9", -1}, {"3e9", -1}, {"4294967296", -1}, {"4294967297", -1}, {"9223372036854775807", -1}, {"18446744073709551616", -1}, {"18446744073709551617", -1}, {"1e9999", -1}, {"1e99999", -1},
	{"-1", -1}, {"-1e0", -1}, {"-2147483648", -1}, {"-9223372036854775808", -1}, {"-18446744073709551615", -1},
	{"1.5", -1}, {"0.5", -1}, {"1e-1", -1}, {"2147483647.5", -1}, {"15e-1", -1}, {"-0.1", -1},
	{"", -1}, {" 1", -1}, {"1 ", -1}, {"+1", -1}, {"01", -1}, {"1.", -1}, {".5", -1}, {"0x1", -1}, {"1e", -1}, {"NaN", -1}, {"\xff", -1},
}

// P8.1: counts at their limits and outside of them, in every form of a decimal, wherever one is required.
func TestCounts(t *testing.T) {
	changed := func(version int, at api.Range) lsp.Message {
		return lsp.Message{Kind: lsp.DidChange, URI: "a", Version: version, Changes: []lsp.Change{{Whole: true, Text: "q"}, {Range: at, Text: "r"}}}
	}
	for _, x := range numbers {
		line, char := api.Pos{Line: x.count, Char: 2}, api.Pos{Line: 1, Char: x.count}
		for _, one := range []struct {
			path string
			want lsp.Message
		}{
			{"textDocument.version", lsp.Message{Kind: lsp.DidOpen, URI: "a", Version: x.count, Text: "let x = 1"}},
			{"textDocument.version", changed(x.count, span(1, 2, 3, 4))},
			{"position.line", lsp.Message{Kind: lsp.Rename, URI: "a", Pos: line, Text: "b"}},
			{"position.character", lsp.Message{Kind: lsp.Rename, URI: "a", Pos: char, Text: "b"}},
			{"position.line", lsp.Message{Kind: lsp.Definition, URI: "a", Pos: line}},
			{"position.character", lsp.Message{Kind: lsp.Definition, URI: "a", Pos: char}},
			{"position.line", lsp.Message{Kind: lsp.Hover, URI: "a", Pos: line}},
			{"position.character", lsp.Message{Kind: lsp.Hover, URI: "a", Pos: char}},
			{"contentChanges.1.range.start.line", changed(3, span(x.count, 2, 3, 4))},
			{"contentChanges.1.range.start.character", changed(3, span(1, x.count, 3, 4))},
			{"contentChanges.1.range.end.line", changed(3, span(1, 2, x.count, 4))},
			{"contentChanges.1.range.end.character", changed(3, span(1, 2, 3, x.count))},
		} {
			params := inside(sample(one.want.Kind), one.path, func(api.Json) api.Json { return num(x.text) })
			if x.count < 0 {
				refuses(t, methods[one.want.Kind], params, api.ErrParams)
			} else {
				gives(t, methods[one.want.Kind], params, one.want)
			}
		}
	}
}

// P8.1: a width at its limits, outside of them, and absent.
func TestWidth(t *testing.T) {
	right := 0
	for n := -300; n < 600; n++ {
		for _, text := range []string{strconv.Itoa(n), strconv.Itoa(n) + "e0", strconv.Itoa(n) + ".00", strconv.Itoa(n) + "0e-1"} {
			params := with(parse(`{"textDocument":{"uri":"a"}}`), "width", num(text))
			if n < 20 || n > 200 {
				refuses(t, methods[lsp.Formatting], params, api.ErrParams)
			} else {
				gives(t, methods[lsp.Formatting], params, lsp.Message{Kind: lsp.Formatting, URI: "a", Width: n})
				right++
			}
		}
	}
	if right != 4*181 {
		t.Errorf("%d widths", right)
	}
	for _, text := range []string{"19.5", "20.5", "199.9", "2e-1", "2147483648", "4294967316", "18446744073709551636", "-4294967216", "1e9999", "x", ""} {
		refuses(t, methods[lsp.Formatting], with(sample(lsp.Formatting), "width", num(text)), api.ErrParams)
	}
	for _, params := range []api.Json{parse(`{"textDocument":{"uri":"a"}}`), with(sample(lsp.Formatting), "width", zero), parse(`{"textDocument":{"uri":"a","width":100},"Width":30}`)} {
		gives(t, methods[lsp.Formatting], params, lsp.Message{Kind: lsp.Formatting, URI: "a", Width: 80})
	}
	for _, value := range []api.Json{null, yes, no, str(""), str("80"), arr(), arr(num("80")), obj(""), {Kind: 9, Text: "80"}} {
		refuses(t, methods[lsp.Formatting], with(sample(lsp.Formatting), "width", value), api.ErrParams)
	}
}

// P8.1: ids, of 64 bits and outside of them, alone and within a cancellation.
func TestIsID(t *testing.T) {
	for _, x := range []struct {
		ids   []api.Json
		right bool
	}{
		{[]api.Json{str(""), str("a"), str("1.5"), str("null"), str("\u20ac\x00")}, true},
		{[]api.Json{num("0"), num("-0"), num("1"), num("-1"), num("1e2"), num("100"), num("1.0"), num("15e1"), num("2147483648"), num("-4294967296"), num("1e18"), num("0e99999")}, true},
		{[]api.Json{num("9223372036854775807"), num("-9223372036854775808"), num("9.223372036854775807e18"), num("-92233720368547758080e-1")}, true},
		{[]api.Json{num("9223372036854775808"), num("-9223372036854775809"), num("1e19"), num("-1e19"), num("18446744073709551615"), num("18446744073709551617"), num("1e9999"), num("1e99999")}, false},
		{[]api.Json{num("1.5"), num("-0.5"), num("1e-1"), num("15e-1"), num("9223372036854775807.5"), num("1e-9999")}, false},
		{[]api.Json{num(""), num("x"), num("01"), num("+1"), num("1 "), num("null")}, false},
		{[]api.Json{zero, null, yes, no, arr(), arr(num("1")), arr(str("a")), obj(""), obj("id", num("1")), {Kind: 8, Text: "1"}, {Kind: 255, Text: "a"}, {Text: "a"}, {Text: "1"}, {Kind: api.Null, Text: "1"}, {Kind: api.True, Text: "a"}, {Kind: api.Array, Text: "a"}, {Kind: api.Object, Text: "1"}}, false},
	} {
		for _, id := range x.ids {
			if lsp.IsID(id) != x.right {
				t.Errorf("IsID of %s is not %v", describe(id), x.right)
			}
			params := obj("x id", id, id)
			if !x.right {
				refuses(t, methods[lsp.Cancel], params, api.ErrParams)
				refuses(t, methods[lsp.Cancel], obj("id", id), api.ErrParams)
				continue
			}
			gives(t, methods[lsp.Cancel], params, lsp.Message{Kind: lsp.Cancel, ID: id})
			gives(t, methods[lsp.Cancel], obj("id", id), lsp.Message{Kind: lsp.Cancel, ID: id})
		}
	}
	refuses(t, methods[lsp.Cancel], obj("ID", num("1")), api.ErrParams)
	refuses(t, methods[lsp.Cancel], obj("params", obj("id", num("1"))), api.ErrParams)
}

// P8.1: changes: of no element, of many, and what may not be among them, wherever it stands.
func TestChanges(t *testing.T) {
	pos := func(line, char string) api.Json { return obj("line character", num(line), num(char)) }
	at := obj("start end", pos("1", "2"), pos("3", "4"))
	back := obj("start end", pos("5", "1"), pos("0", "0")) // a range's ends need not be in order
	right := []api.Json{obj("text", str("w")), obj("text range", str(""), at), obj("range text", back, str("b")), obj("text range", str("z"), zero)}
	want := []lsp.Change{
		{Whole: true, Text: "w"},
		{Range: api.Range{Start: api.Pos{Line: 1, Char: 2}, End: api.Pos{Line: 3, Char: 4}}},
		{Range: api.Range{Start: api.Pos{Line: 5, Char: 1}}, Text: "b"},
		{Whole: true, Text: "z"},
	}
	base := sample(lsp.DidChange)
	decodes := func(l ...api.Json) api.Json { return with(base, "contentChanges", arr(l...)) }
	message := func(l ...lsp.Change) lsp.Message {
		return lsp.Message{Kind: lsp.DidChange, URI: "a", Version: 3, Changes: l}
	}
	gives(t, methods[lsp.DidChange], decodes(), message())
	for i := range right {
		gives(t, methods[lsp.DidChange], decodes(right[i]), message(want[i]))
		for k := range right {
			gives(t, methods[lsp.DidChange], decodes(right[i], right[k]), message(want[i], want[k]))
		}
	}
	gives(t, methods[lsp.DidChange], decodes(slices.Repeat(right, 1000)...), message(slices.Repeat(want, 1000)...))
	wrong := []api.Json{
		zero, null, yes, num("1"), str("text"), arr(), arr(right[0]), {Kind: 9, Names: right[0].Names, List: right[0].List}, {Names: right[0].Names, List: right[0].List},
		obj(""), obj("range", at), obj("Text", str("")), obj("text", null), obj("text", num("1")), obj("text", zero), obj("text", arr(str(""))),
		obj("text range", str(""), null), obj("text range", str(""), yes), obj("text range", str(""), str("")), obj("text range", str(""), arr(pos("1", "2"), pos("3", "4"))), obj("text range", str(""), obj("")), obj("text range", str(""), pos("1", "2")),
		obj("text range", str(""), without(at, "start")), obj("text range", str(""), without(at, "end")), obj("text range", str(""), with(at, "end", null)), obj("text range", str(""), with(at, "start", num("1"))), obj("text range", str(""), with(at, "end", zero)),
		obj("text range", str(""), with(at, "start", pos("-1", "0"))), obj("text range", str(""), with(at, "end", pos("0", "15e-1"))), obj("text range", str(""), with(at, "end", obj("line", num("1")))), obj("text range", null, at),
	}
	for _, one := range wrong {
		for _, l := range [][]api.Json{{one}, {one, right[0]}, {right[1], one}, {right[0], one, right[1]}, {one, one}} {
			refuses(t, methods[lsp.DidChange], decodes(l...), api.ErrParams)
			holds(t, lsp.DidChange, decodes(l...))
		}
	}
	for _, value := range []api.Json{null, obj(""), right[0], str(""), {Kind: 9, List: right}, {List: right}, obj("0 1 2 3", right...)} {
		refuses(t, methods[lsp.DidChange], with(base, "contentChanges", value), api.ErrParams)
	}
}

// P8.1: version and text stand in textDocument, not beside it; position and the others beside it.
func TestPlaces(t *testing.T) {
	for _, x := range []struct {
		kind   uint8
		params string
	}{
		{lsp.DidOpen, `{"textDocument":{"uri":"a"},"version":1,"text":""}`},
		{lsp.DidOpen, `{"textDocument":{"uri":"a","version":1},"text":""}`},
		{lsp.DidOpen, `{"textDocument":{"uri":"a","text":""},"version":1}`},
		{lsp.DidOpen, `{"uri":"a","version":1,"text":""}`},
		{lsp.DidOpen, `{"textDocument":{"version":1,"text":""},"uri":"a"}`},
		{lsp.DidChange, `{"textDocument":{"uri":"a"},"version":1,"contentChanges":[]}`},
		{lsp.DidChange, `{"textDocument":{"uri":"a","version":1,"contentChanges":[]}}`},
		{lsp.DidChange, `{"textDocument":{"uri":"a","version":1},"text":"x"}`},
		{lsp.DidClose, `{"uri":"a"}`},
		{lsp.DidClose, `{"textDocument":"a"}`},
		{lsp.Hover, `{"textDocument":{"uri":"a","position":{"line":1,"character":1}}}`},
		{lsp.Hover, `{"textDocument":{"uri":"a"},"line":1,"character":1}`},
		{lsp.Hover, `{"textDocument":{"uri":"a"},"position":[1,1]}`},
		{lsp.Hover, `{"textDocument":[{"uri":"a"}],"position":{"line":1,"character":1}}`},
		{lsp.Rename, `{"textDocument":{"uri":"a","newName":"b"},"position":{"line":1,"character":1}}`},
		{lsp.Rename, `{"textDocument":{"uri":"a"},"position":{"line":1,"character":1,"newName":"b"}}`},
		{lsp.Cancel, `{"textDocument":{"id":1}}`},
	} {
		refuses(t, methods[x.kind], parse(x.params), api.ErrParams)
		holds(t, x.kind, parse(x.params))
	}
	both := `{"version":8,"text":"beside","uri":"b","textDocument":{"uri":"a","version":1,"text":"in"}}`
	gives(t, methods[lsp.DidOpen], parse(both), lsp.Message{Kind: lsp.DidOpen, URI: "a", Version: 1, Text: "in"})
}

// P8.1: any combination of right and wrong members.
func TestRandomParams(t *testing.T) {
	r := source()
	right := 0
	each(func(kind uint8) {
		paths := parts(kind)
		if len(paths) == 0 {
			return
		}
		for range 3000 {
			params := sample(kind)
			for range 1 + r.IntN(3) {
				path := pick(r, paths...)
				value := pick(r, values...)
				params = insideIfThere(params, path, func(api.Json) api.Json { return value })
			}
			if holds(t, kind, params) {
				right++
			}
		}
	})
	if right < 1500 {
		t.Errorf("just %d of them are right", right)
	}
}

// insideIfThere is inside, where an earlier change has left that path.
func insideIfThere(j api.Json, path string, change func(j api.Json) api.Json) api.Json {
	at := j
	for name := range strings.SplitSeq(path, ".") {
		i, err := strconv.Atoi(name)
		if err != nil {
			i = slices.Index(at.Names, name)
		}
		if i < 0 || i >= len(at.List) {
			return j
		}
		at = at.List[i]
	}
	return inside(j, path, change)
}
