package lsp_test

import (
	"math/big"
	"math/rand/v2"
	"regexp"
	"slices"
	"strconv"
	"strings"
	"testing"

	"rostrum/api"
	"rostrum/json"
	"rostrum/lsp"
)

// The chapter's terms over plain trees of Go values and big numbers, with a list of what each method requires, so that the package is held against something that shares no code with it. Texts of values are read and printed by package json, which has tests of its own.

var (
	null = api.Json{Kind: api.Null}
	yes  = api.Json{Kind: api.True}
	no   = api.Json{Kind: api.False}
	zero api.Json
)

func num(s string) api.Json { return api.Json{Kind: api.Number, Text: s} }

func str(s string) api.Json { return api.Json{Kind: api.String, Text: s} }

func arr(l ...api.Json) api.Json { return api.Json{Kind: api.Array, List: l} }

// obj: names, separated by blanks, and their values.
func obj(names string, l ...api.Json) api.Json {
	return api.Json{Kind: api.Object, Names: strings.Fields(names), List: l}
}

// parse: the value of a text that is JSON.
func parse(s string) api.Json {
	j, e := json.Parse(s)
	if e != api.OK {
		panic("Parse of " + s + ": " + e.Error())
	}
	return j
}

// printed: the text of a value; it fails if that is not valid.
func printed(t *testing.T, j api.Json) string {
	t.Helper()
	s, e := json.Print(j)
	if e != api.OK {
		t.Errorf("Print of %s: %v", describe(j), e)
	}
	return s
}

// with: an Object with another value of a name, or one more name.
func with(j api.Json, name string, value api.Json) api.Json {
	c := api.Json{Kind: j.Kind, Text: j.Text, Names: slices.Clone(j.Names), List: slices.Clone(j.List)}
	if at := slices.Index(c.Names, name); at >= 0 {
		c.List[at] = value
		return c
	}
	c.Names, c.List = append(c.Names, name), append(c.List, value)
	return c
}

// without: an Object without a name.
func without(j api.Json, name string) api.Json {
	at := slices.Index(j.Names, name)
	return api.Json{Kind: j.Kind, Text: j.Text, Names: slices.Concat(j.Names[:at], j.Names[at+1:]), List: slices.Concat(j.List[:at], j.List[at+1:])}
}

// inside: a value in which the member at a path of names, separated by points (a number: the element of an Array), is changed.
func inside(j api.Json, path string, change func(j api.Json) api.Json) api.Json {
	if path == "" {
		return change(j)
	}
	name, rest, _ := strings.Cut(path, ".")
	c := api.Json{Kind: j.Kind, Text: j.Text, Names: slices.Clone(j.Names), List: slices.Clone(j.List)}
	at, err := strconv.Atoi(name)
	if err != nil {
		at = slices.Index(j.Names, name)
	}
	c.List[at] = inside(c.List[at], rest, change)
	return c
}

// describe is a value for a message; it may be of any size, and have no end.
func describe(j api.Json) string {
	left := 100
	var look func(j api.Json) string
	look = func(j api.Json) string {
		if left--; left < 0 {
			return ".."
		}
		s := strconv.Itoa(int(j.Kind)) + strconv.Quote(j.Text[:min(len(j.Text), 50)]) + "("
		for i, part := range j.List {
			if left < 0 {
				break
			}
			if i < len(j.Names) {
				s += j.Names[i] + ":"
			}
			s += look(part) + " "
		}
		return s + ")"
	}
	return look(j)
}

// alike: two messages.
func alike(a, b lsp.Message) bool {
	return a.Kind == b.Kind && a.URI == b.URI && a.Version == b.Version && a.Text == b.Text && a.Pos == b.Pos && a.Width == b.Width && json.Same(a.ID, b.ID) && slices.Equal(a.Changes, b.Changes)
}

// decimal: what a number's text looks like.
var decimal = regexp.MustCompile(`^-?(0|[1-9][0-9]*)(\.[0-9]+)?([eE][+-]?[0-9]+)?$`)

// nothing is a value of no kind.
type nothing struct{}

// tree is a value as Go has it: nil, bool, *big.Rat, string, []any, map[string]any, or nothing.

func tree(j api.Json) any {
	switch j.Kind {
	case api.Null:
		return nil
	case api.True, api.False:
		return j.Kind == api.True
	case api.Number:
		if !decimal.MatchString(j.Text) {
			return nothing{}
		}
		value, _ := new(big.Rat).SetString(j.Text)
		return value
	case api.String:
		return j.Text
	case api.Array:
		l := []any{}
		for _, part := range j.List {
			l = append(l, tree(part))
		}
		return l
	case api.Object:
		m := map[string]any{}
		for i := min(len(j.Names), len(j.List)) - 1; i >= 0; i-- { // the first one of two names stays
			m[j.Names[i]] = tree(j.List[i])
			if isZero := j.List[i]; isZero.Kind == 0 && isZero.Text == "" && len(isZero.Names)+len(isZero.List) == 0 {
				delete(m, j.Names[i])
			}
		}
		return m
	default:
		return nothing{}
	}
}

// model is what Decode must do.
type model struct{ wrong bool }

// within is the member at a path of names, and whether there is one.
func within(v any, path ...string) (any, bool) {
	for _, name := range path {
		m, _ := v.(map[string]any)
		part, ok := m[name]
		if !ok {
			return nil, false
		}
		v = part
	}
	return v, true
}

func (x *model) text(v any, path ...string) string {
	part, _ := within(v, path...)
	s, ok := part.(string)
	x.wrong = x.wrong || !ok
	return s
}

func (x *model) number(least, most int, v any, path ...string) int {
	part, _ := within(v, path...)
	value, ok := part.(*big.Rat)
	if !ok || !value.IsInt() || value.Cmp(big.NewRat(int64(least), 1)) < 0 || value.Cmp(big.NewRat(int64(most), 1)) > 0 {
		x.wrong = true
		return 0
	}
	return int(value.Num().Int64())
}

func (x *model) pos(v any, path ...string) api.Pos {
	part, _ := within(v, path...)
	return api.Pos{Line: x.number(0, 1<<31-1, part, "line"), Char: x.number(0, 1<<31-1, part, "character")}
}

func (x *model) changes(v any) []lsp.Change {
	part, _ := within(v, "contentChanges")
	list, ok := part.([]any)
	x.wrong = x.wrong || !ok
	var l []lsp.Change
	for _, one := range list {
		c := lsp.Change{Text: x.text(one, "text")}
		if _, ranged := within(one, "range"); ranged {
			c.Range = api.Range{Start: x.pos(one, "range", "start"), End: x.pos(one, "range", "end")}
		} else {
			c.Whole = true
		}
		l = append(l, c)
	}
	return l
}

// decode: the message of a Kind and its params; false: ErrParams.
func decode(kind uint8, params api.Json) (lsp.Message, bool) {
	x, v := &model{}, tree(params)
	m := lsp.Message{Kind: kind}
	switch kind {
	case lsp.Initialize:
		return m, params.Kind == 0 || params.Kind == api.Object
	case lsp.Shutdown, lsp.Initialized, lsp.Exit:
		return m, params.Kind == 0 || params.Kind == api.Null || params.Kind == api.Object
	case lsp.Cancel:
		id, _ := within(v, "id")
		if _, ok := id.(string); !ok {
			x.number(-1<<63, 1<<63-1, v, "id")
		}
		m.ID, _ = json.Get(params, "id")
		return m, !x.wrong
	}
	m.URI = x.text(v, "textDocument", "uri")
	switch kind {
	case lsp.Formatting:
		m.Width = 80
		if _, wide := within(v, "width"); wide {
			m.Width = x.number(20, 200, v, "width")
		}
	case lsp.Rename, lsp.Definition, lsp.Hover:
		m.Pos = x.pos(v, "position")
		if kind == lsp.Rename {
			m.Text = x.text(v, "newName")
		}
	case lsp.DidOpen, lsp.DidChange:
		m.Version = x.number(0, 1<<31-1, v, "textDocument", "version")
		if kind == lsp.DidOpen {
			m.Text = x.text(v, "textDocument", "text")
		} else {
			m.Changes = x.changes(v)
		}
	}
	return m, !x.wrong
}

// holds holds Decode against the model, and says whether the params are as required.
func holds(t *testing.T, kind uint8, params api.Json) bool {
	t.Helper()
	want, ok := decode(kind, params)
	if ok {
		gives(t, methods[kind], params, want)
	} else {
		refuses(t, methods[kind], params, api.ErrParams)
	}
	return ok
}

// gives: the message of a method and its params.
func gives(t *testing.T, method string, params api.Json, want lsp.Message) {
	t.Helper()
	if m, e := lsp.Decode(method, params); e != api.OK || !alike(m, want) {
		t.Errorf("Decode of %s and %s: %+v, %v, not %+v", method, describe(params), m, e, want)
	}
}

// refuses: an error, and nothing beside it.
func refuses(t *testing.T, method string, params api.Json, want api.Errno) {
	t.Helper()
	if m, e := lsp.Decode(method, params); e != want || !alike(m, lsp.Message{}) {
		t.Errorf("Decode of %q and %s: %+v, %v, not %v", method, describe(params), m, e, want)
	}
}

// methods are those of the Kinds, from 1 on.
var methods = []string{
	"",
	"initialize",
	"shutdown",
	"textDocument/formatting",
	"textDocument/rename",
	"textDocument/definition",
	"textDocument/hover",
	"textDocument/diagnostic",
	"initialized",
	"exit",
	"$/cancelRequest",
	"textDocument/didOpen",
	"textDocument/didChange",
	"textDocument/didClose",
}

// sample: params of a Kind that have everything.
func sample(kind uint8) api.Json {
	const position = `"position":{"line":1,"character":2}`
	s, ok := map[uint8]string{
		lsp.Formatting: `{"textDocument":{"uri":"a"},"width":100}`,
		lsp.Rename:     `{"textDocument":{"uri":"a"},` + position + `,"newName":"b"}`,
		lsp.Definition: `{"textDocument":{"uri":"a"},` + position + `}`,
		lsp.Hover:      `{"textDocument":{"uri":"a"},` + position + `}`,
		lsp.Diagnostic: `{"textDocument":{"uri":"a"}}`,
		lsp.Cancel:     `{"id":1}`,
		lsp.DidOpen:    `{"textDocument":{"uri":"a","version":3,"text":"let x = 1"}}`,
		lsp.DidChange:  `{"textDocument":{"uri":"a","version":3},"contentChanges":[{"text":"q"},{"range":{"start":{"line":1,"character":2},"end":{"line":3,"character":4}},"text":"r"}]}`,
		lsp.DidClose:   `{"textDocument":{"uri":"a"}}`,
	}[kind]
	if !ok {
		s = "{}"
	}
	return parse(s)
}

// parts are the paths of the members that a Kind's params have, in sample.
func parts(kind uint8) []string {
	const changes = "textDocument textDocument.uri textDocument.version contentChanges contentChanges.0 contentChanges.0.text contentChanges.1 contentChanges.1.text contentChanges.1.range contentChanges.1.range.start contentChanges.1.range.start.line contentChanges.1.range.start.character contentChanges.1.range.end contentChanges.1.range.end.line contentChanges.1.range.end.character"
	const position = "textDocument textDocument.uri position position.line position.character"
	return strings.Fields(map[uint8]string{
		lsp.Formatting: "textDocument textDocument.uri width",
		lsp.Rename:     position + " newName",
		lsp.Definition: position,
		lsp.Hover:      position,
		lsp.Diagnostic: "textDocument textDocument.uri",
		lsp.Cancel:     "id",
		lsp.DidOpen:    "textDocument textDocument.uri textDocument.version textDocument.text",
		lsp.DidChange:  changes,
		lsp.DidClose:   "textDocument textDocument.uri",
	}[kind])
}

// values are of all kinds, valid ones and others.
var values = []api.Json{
	null, yes, no, zero,
	num("0"), num("1"), num("-1"), num("20"), num("2e1"), num("2e0"), num("1.5"), num("19"), num("2e2"), num("201"), num("2147483647"), num("2147483648"), num("9223372036854775807"), num("9223372036854775808"), num("-9223372036854775808"), num("-9223372036854775809"), num("100000000000000000000"), num(""), num("x"), num("01"),
	str(""), str("a"), str("1"), str("null"), str("\u20ac\n"),
	arr(), arr(null), arr(str("a")), arr(obj("text", str("a"))), arr(obj("")), arr(arr()), arr(zero),
	obj(""), obj("uri", str("b")), obj("uri version text", str("c"), num("7"), str("z")), obj("line character", num("5"), num("6")), obj("start end", obj("line character", num("5"), num("6")), obj("line character", num("7"), num("8"))), obj("text", str("t")), obj("id", num("1")),
	{Kind: 9}, {Kind: 255, Text: "a"}, {Text: "a"}, {Names: []string{"uri"}}, {List: []api.Json{str("a")}}, {Names: []string{"uri"}, List: []api.Json{str("a")}},
	{Kind: api.Array, Names: []string{"uri"}, List: []api.Json{str("a")}}, {Kind: api.Object, Names: []string{"uri"}}, {Kind: api.Object, List: []api.Json{str("a")}},
}

// source makes the same numbers in every run.
func source() *rand.Rand { return rand.New(rand.NewPCG(8, 2026)) }

// pick: one of some.
func pick[T any](r *rand.Rand, l ...T) T { return l[r.IntN(len(l))] }
