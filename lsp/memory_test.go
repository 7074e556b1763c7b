package lsp_test

import (
	"slices"
	"strings"
	"testing"
	"unsafe"

	"rostrum/api"
	"rostrum/json"
	"rostrum/lsp"
)

// junk: the value's lists get spare capacity, in which something stands.
func junk(j api.Json) api.Json {
	list := []api.Json{}
	for _, part := range j.List {
		list = append(list, junk(part))
	}
	j.Names = append(slices.Clone(j.Names), "textDocument", "id", "width")[:len(j.Names)]
	j.List = append(list, str("junk"), num("1"), num("30"))[:len(j.List)]
	return j
}

// full: a value with what stands in the spare capacity of all its lists.
func full(j api.Json) api.Json {
	c := api.Json{Kind: j.Kind, Text: j.Text, Names: j.Names[:len(j.Names)+3]}
	for i, part := range j.List[:len(j.List)+3] {
		if i < len(j.List) {
			part = full(part)
		}
		c.List = append(c.List, part)
	}
	return c
}

// spoil overwrites all lists of a value, and their spare capacity.
func spoil(j api.Json) {
	for i := range j.List {
		spoil(j.List[i])
	}
	for i := range j.Names[:cap(j.Names)] {
		j.Names[:cap(j.Names)][i] = "spoilt"
	}
	for i := range j.List[:cap(j.List)] {
		j.List[:cap(j.List)][i] = str("spoilt")
	}
}

// R3: Decode does not change params, nor read beyond their length, and what it returns can be overwritten.
func TestParamsStay(t *testing.T) {
	each(func(kind uint8) {
		params, before := junk(sample(kind)), junk(sample(kind))
		want, _ := decode(kind, sample(kind))
		gives(t, methods[kind], params, want)
		m, _ := lsp.Decode(methods[kind], params)
		spoil(m.ID)
		for i := range m.Changes[:cap(m.Changes)] {
			m.Changes[:cap(m.Changes)][i] = lsp.Change{Text: "spoilt"}
		}
		if !json.Same(full(params), full(before)) {
			t.Errorf("Decode of %s has changed its params", methods[kind])
		}
		gives(t, methods[kind], params, want)
		m, _ = lsp.Decode(methods[kind], params)
		spoil(params)
		if !alike(m, want) {
			t.Errorf("%s: the message shows what happened to the params: %+v", methods[kind], m)
		}
	})
	// What stands in spare capacity is no member.
	refuses(t, methods[lsp.Cancel], junk(obj("")), api.ErrParams)
	gives(t, methods[lsp.Formatting], junk(parse(`{"textDocument":{"uri":"a"}}`)), lsp.Message{Kind: lsp.Formatting, URI: "a", Width: 80})
}

// R3: an id is a copy, whatever it has beside its text.
func TestIDIsNew(t *testing.T) {
	id := api.Json{Kind: api.String, Text: "an id", Names: []string{"a"}, List: []api.Json{arr(null), num("1")}}
	params := obj("id", id)
	if !lsp.IsID(id) {
		t.Error("IsID of a String with lists")
	}
	m, e := lsp.Decode(methods[lsp.Cancel], params)
	if e != api.OK || !json.Same(m.ID, id) {
		t.Fatalf("Decode: %+v, %v", m, e)
	}
	spoil(m.ID)
	if id.Names[0] != "a" || id.List[0].List[0].Kind != api.Null || id.List[1].Text != "1" {
		t.Errorf("the id shares memory with the params: %s", describe(id))
	}
}

// R3: parts are not changed, and an answer is new memory, none of it shared by two of its lists.
func TestPartsStay(t *testing.T) {
	same := lsp.Part{Range: span(1, 2, 3, 4), Code: 5, Text: "t"}
	whole := []lsp.Part{same, same, same, {Code: 9, Text: "junk"}, {Code: 9}}
	before := slices.Clone(whole)
	l := whole[:3]
	for _, write := range []func() api.Json{
		lsp.Caps,
		func() api.Json { return lsp.Edits(1, l) },
		func() api.Json { return lsp.Place(1, l) },
		func() api.Json { return lsp.Items(1, l) },
		func() api.Json { return lsp.Shown(1, "a", "b") },
		func() api.Json { return lsp.Log(1, "a") },
	} {
		j, other := write(), write()
		want := printed(t, other)
		for i := range j.List { // what one list shows when another one is overwritten
			spoil(j.List[i])
			for k := i + 1; k < len(j.List); k++ {
				if !json.Same(j.List[k], other.List[k]) {
					t.Errorf("two lists of %s share memory", want)
				}
			}
		}
		j = write()
		if len(j.List) > 1 {
			for i, part := range j.List[1].List {
				spoil(part)
				for k := i + 1; k < len(j.List[1].List); k++ {
					if !json.Same(j.List[1].List[k], other.List[1].List[k]) {
						t.Errorf("two parts of %s share memory", want)
					}
				}
			}
		}
		spoil(j)
		if printed(t, other) != want || printed(t, write()) != want {
			t.Errorf("two results share memory: %s", want)
		}
	}
	if !slices.Equal(whole, before) {
		t.Errorf("parts were changed: %+v", whole)
	}
	j := lsp.Items(1, l)
	for _, list := range [][]api.Json{j.List, j.List[1].List, j.List[1].List[0].List} {
		for _, part := range list[len(list):cap(list)] {
			if !json.Same(part, zero) {
				t.Errorf("something stands in spare capacity: %s", describe(part))
			}
		}
	}
}

// inMemory says whether a text lies in the memory of another one.
func inMemory(s, whole string) bool {
	from := uintptr(unsafe.Pointer(unsafe.StringData(whole)))
	at := uintptr(unsafe.Pointer(unsafe.StringData(s)))
	return s != "" && at >= from && at < from+uintptr(len(whole))
}

// R3: no text of a result is a part of an argument, which it would keep in memory.
func TestTextsAreNew(t *testing.T) {
	long := strings.Repeat("long ", 100)
	a, b, c := long[:100], long[100:200], long[200:300]
	for _, x := range []struct {
		kind uint8
		j    api.Json
	}{
		{lsp.DidOpen, obj("textDocument", obj("uri version text", str(a), num("1"), str(b)))},
		{lsp.Rename, obj("textDocument position newName", obj("uri", str(a)), obj("line character", num("0"), num("0")), str(b))},
		{lsp.DidChange, obj("textDocument contentChanges", obj("uri version", str(a), num("1")), arr(obj("text", str(c))))},
		{lsp.Cancel, obj("id", str(c))},
	} {
		m, e := lsp.Decode(methods[x.kind], x.j)
		if e != api.OK || inMemory(m.URI, long) || inMemory(m.Text, long) || inMemory(m.ID.Text, long) || len(m.Changes) > 0 && inMemory(m.Changes[0].Text, long) {
			t.Errorf("Decode of %s: a part of its argument, %v", methods[x.kind], e)
		}
	}
	l := []lsp.Part{{Text: a}}
	edits, items, shown, log := lsp.Edits(1, l), lsp.Items(1, l), lsp.Shown(1, a, b), lsp.Log(1, c)
	for _, j := range []api.Json{edits.List[1].List[0].List[1], items.List[1].List[0].List[2], shown.List[1], shown.List[2], log.List[1]} {
		if inMemory(j.Text, long) {
			t.Errorf("a part of an argument: %.20q", j.Text)
		}
	}
}

// R1: values without an end, everywhere.
func TestEndless(t *testing.T) {
	for _, j := range endless() {
		each(func(kind uint8) {
			lsp.Decode(methods[kind], j)
			for _, path := range parts(kind) {
				params := inside(sample(kind), path, func(api.Json) api.Json { return j })
				refuses(t, methods[kind], params, api.ErrParams)
			}
		})
		if lsp.IsID(j) {
			t.Error("IsID of an endless value")
		}
	}
	list := make([]api.Json, 1)
	id := api.Json{Kind: api.String, Text: "a", List: list}
	list[0] = id
	if !lsp.IsID(id) {
		t.Error("IsID of an id that contains itself")
	}
	lsp.Decode(methods[lsp.Cancel], obj("id", id))
	lsp.Decode("", endless()[0])
}

// R2: the result depends on the arguments alone, however often and in whatever order it is asked.
func TestAgain(t *testing.T) {
	r := source()
	for range 2000 {
		kind := uint8(1 + r.IntN(len(methods)-1))
		want, _ := decode(kind, sample(kind))
		gives(t, methods[kind], sample(kind), want)
		if got := lsp.Method(kind); got != methods[kind] {
			t.Fatalf("Method(%d): %q", kind, got)
		}
	}
}
