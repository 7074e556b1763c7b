package lsp_test

import (
	"math/rand/v2"
	"slices"
	"testing"

	"rostrum/api"
	"rostrum/lsp"
)

// objects are the paths of all Objects in the params of a Kind.
func objects(kind uint8) []string {
	paths := []string{""}
	for _, path := range parts(kind) {
		inside(sample(kind), path, func(j api.Json) api.Json {
			if j.Kind == api.Object {
				paths = append(paths, path)
			}
			return j
		})
	}
	return paths
}

// known are all names that the table has.
var known = []string{"textDocument", "uri", "width", "position", "line", "character", "newName", "id", "version", "text", "contentChanges", "range", "start", "end"}

// endless are values whose lists contain themselves, and one whose lists share so much that it has more values than could be counted.
func endless() []api.Json {
	list := make([]api.Json, 2)
	self := api.Json{Kind: api.Object, Names: []string{"a", "b"}, List: list}
	list[0], list[1] = null, self
	doubled := null
	for range 100 {
		doubled = arr(doubled, doubled)
	}
	return []api.Json{self, arr(self), doubled}
}

// P8.3: other members, of any value, at every place in every Object: of names that no method has, and of those that just others have.
func TestOtherMembers(t *testing.T) {
	more := append(slices.Clone(values), endless()...)
	names := append([]string{"", "x", "URI", "uri ", "\xff", "Width", "kind"}, known...)
	each(func(kind uint8) {
		whole := sample(kind)
		want, e := lsp.Decode(methods[kind], whole)
		if e != api.OK {
			t.Fatal(methods[kind], e)
		}
		for _, path := range objects(kind) {
			for _, name := range names {
				for _, value := range more {
					changed := inside(whole, path, func(j api.Json) api.Json {
						if slices.Contains(j.Names, name) {
							return j
						}
						at := len(name) % (len(j.Names) + 1)
						return api.Json{Kind: j.Kind, Names: slices.Insert(slices.Clone(j.Names), at, name), List: slices.Insert(slices.Clone(j.List), at, value)}
					})
					if optional := name == "range" && path == "contentChanges.0"; !optional {
						gives(t, methods[kind], changed, want)
					}
				}
			}
		}
	})
}

// P8.3: other members do not make wrong params right either.
func TestOtherMembersOfWrong(t *testing.T) {
	for _, x := range []struct {
		kind uint8
		path string
	}{{lsp.Hover, "position.line"}, {lsp.Rename, "newName"}, {lsp.Cancel, "id"}, {lsp.DidOpen, "textDocument.text"}, {lsp.DidClose, "textDocument.uri"}, {lsp.DidChange, "contentChanges.1.range.end"}} {
		wrong := inside(sample(x.kind), x.path, func(api.Json) api.Json { return null })
		for _, name := range []string{"x", "URI", "Text", "params"} {
			for _, value := range values {
				refuses(t, methods[x.kind], with(wrong, name, value), api.ErrParams)
			}
		}
	}
}

// shuffled: the members of all Objects in another order.
func shuffled(r *rand.Rand, j api.Json) api.Json {
	c := api.Json{Kind: j.Kind, Text: j.Text, Names: slices.Clone(j.Names)}
	for _, part := range j.List {
		c.List = append(c.List, shuffled(r, part))
	}
	if c.Kind == api.Object {
		r.Shuffle(len(c.List), func(i, k int) {
			c.Names[i], c.Names[k] = c.Names[k], c.Names[i]
			c.List[i], c.List[k] = c.List[k], c.List[i]
		})
	}
	return c
}

// P8.3: any order of members, with others between them.
func TestOrder(t *testing.T) {
	r := source()
	each(func(kind uint8) {
		want, _ := lsp.Decode(methods[kind], sample(kind))
		for range 300 {
			params := sample(kind)
			for _, path := range objects(kind) {
				for _, name := range []string{"x", "y", "z"} {
					params = inside(params, path, func(j api.Json) api.Json { return with(j, name, pick(r, values...)) })
				}
			}
			gives(t, methods[kind], shuffled(r, params), want)
		}
	})
}

// A name that occurs twice has the value of its first place, as in json.Get.
func TestNameTwice(t *testing.T) {
	id := obj("id id", num("1"), num("2"))
	gives(t, methods[lsp.Cancel], id, lsp.Message{Kind: lsp.Cancel, ID: num("1")})
	refuses(t, methods[lsp.Cancel], obj("id id", null, num("2")), api.ErrParams)
	document := obj("uri", str("a"))
	gives(t, methods[lsp.DidClose], obj("textDocument textDocument", document, null), lsp.Message{Kind: lsp.DidClose, URI: "a"})
	gives(t, methods[lsp.Formatting], obj("textDocument width width", document, num("30"), null), lsp.Message{Kind: lsp.Formatting, URI: "a", Width: 30})
	refuses(t, methods[lsp.DidClose], obj("textDocument textDocument", null, document), api.ErrParams)
}
