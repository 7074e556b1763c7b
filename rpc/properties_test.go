package rpc_test

import (
	"math"
	"slices"
	"strings"
	"testing"
	"unsafe"

	"rostrum/api"
	"rostrum/json"
	"rostrum/rpc"
)

// P7.2: the id of an Object, whether or not it is an envelope; Null of what is not valid, or has none.
func TestID(t *testing.T) {
	for s, want := range map[string]api.Json{
		`{"id":1}`: num("1"), `{"id":"a"}`: str("a"), `{"id":""}`: str(""), `{"id":"\u0061\n"}`: str("a\n"), `{"id":-1.50e1}`: num("-15"), `{"id":1e2}`: num("1e2"), `{"id":"1.5"}`: str("1.5"),
		`{"x":[],"id":1,"y":{"id":2}}`: num("1"), `{"jsonrpc":"1.0","id":7}`: num("7"), `{"id":7,"method":1}`: num("7"), `{"method":"m","params":3,"id":"z"}`: str("z"), `{"jsonrpc":"2.0","id":1,"result":1,"error":1}`: num("1"), `{"i\u0064":5}`: num("5"),
		`{"id":null}`: null, `{"id":true}`: null, `{"id":false}`: null, `{"id":[]}`: null, `{"id":[1]}`: null, `{"id":{}}`: null, `{"id":{"id":1}}`: null, `{"id":1.5}`: null, `{"id":1e-1}`: null,
		`{}`: null, `{"ID":1}`: null, `{"Id":1}`: null, `{"id ":1}`: null, `{"":1}`: null, `{"x":{"id":1}}`: null, `[{"id":1}]`: null, `["id",1]`: null, `"id"`: null, `1`: null, `null`: null,
	} {
		if id := rpc.ID(parse(s)); !json.Same(id, want) {
			t.Errorf("ID of %s: %+v, not %+v", s, id, want)
		}
		holds(t, s)
	}
	one := num("1")
	for _, j := range []api.Json{
		none, {Kind: 9}, {Kind: api.Array, Names: []string{"id"}, List: []api.Json{one}}, {Names: []string{"id"}, List: []api.Json{one}}, {Kind: 9, Names: []string{"id"}, List: []api.Json{one}}, {Kind: api.Object, Text: "x", Names: []string{"id"}, List: []api.Json{one}},
		obj("id"), obj("id x", one), obj("id", one, one), obj("id id", one, one), obj("id x x", one, null, null), obj("id x", one, none), obj("id x", one, nested(api.MaxNest, null)), obj("id x", one, many(api.MaxItems, null)), obj("id x", one, str("\xff")),
		obj("id", num("10")), obj("id", num("1.0")), obj("id", str("\xff")), obj("id", none), obj("id", api.Json{Kind: api.Number, Text: "1", Names: []string{"a"}}), obj("id", api.Json{Kind: api.String, Text: "a", List: []api.Json{null}}),
	} {
		if id := rpc.ID(j); !json.Same(id, null) {
			t.Errorf("ID of %s: %+v", describe(rpc.Message{Result: j}), id)
		}
	}
}

// P7.2: each code of the table, and others: those beside them, and those that are the same in fewer bits.
func TestAbout(t *testing.T) {
	words := map[int]string{
		-32700: "no JSON", -32600: "no request", -32601: "no such method", -32602: "wrong parameters", -32002: "not initialized", -32800: "cancelled", -32803: "refused", -32000: "the queue is full", -32001: "too great",
	}
	for code, want := range words {
		if s := rpc.About(code); s != want {
			t.Errorf("About(%d): %s, not %s", code, s, want)
		}
		for _, other := range []int{-code, code + 1<<32, code - 1<<32, code + 1<<16, code ^ math.MinInt} {
			if s := rpc.About(other); s != "" {
				t.Errorf("About(%d): %s", other, s)
			}
		}
	}
	for code := -34000; code < 34000; code++ {
		if s := rpc.About(code); s != words[code] {
			t.Errorf("About(%d): %s", code, s)
		}
	}
	for _, code := range []int{0, 1, -1, math.MinInt, math.MaxInt, math.MinInt32, math.MaxInt32} {
		if s := rpc.About(code); s != "" {
			t.Errorf("About(%d): %s", code, s)
		}
	}
}

// P7.3: what is written is read as it was.
func TestBack(t *testing.T) {
	r := source()
	for range 5000 {
		m := someMessage(r)
		writes(t, m)
		holds(t, textOf(m))
	}
}

// P7.3: what is read, written and read again is the same message, whatever the envelope was.
func TestReadAgain(t *testing.T) {
	r := source()
	read := 0
	for range 20000 {
		var l []string
		for _, x := range [][]string{
			{`"jsonrpc":"2.0"`, `"jsonrpc":"2.0"`, `"jsonrpc":"2.0"`, ""},
			{`"id":1`, `"id":"a"`, `"id":100`, `"id":null`, "", `"id":` + someText(r, 1)},
			{`"method":"m"`, "", "", `"method":` + someText(r, 1)},
			{`"params":[1,{"a":null}]`, "", `"params":` + someText(r, 3)},
			{`"result":` + someText(r, 3), "", ""},
			{`"error":{"code":1,"message":"x"}`, "", "", `"error":` + someText(r, 2), `"error":{"data":` + someText(r, 1) + `,"message":` + pick(r, `""`, `"x"`, "null") + `,"code":` + someText(r, 0) + "}"},
			{`"x":` + someText(r, 3), ""},
		} {
			if one := pick(r, x...); one != "" {
				l = append(l, one)
			}
		}
		r.Shuffle(len(l), func(i, k int) { l[i], l[k] = l[k], l[i] })
		if holds(t, "{"+strings.Join(l, ",")+"}") {
			read++
		}
	}
	if read < 3000 || read > 17000 {
		t.Errorf("%d of them are read", read)
	}
}

// permuted visits all orders of a list.
func permuted(l []string, visit func(l []string)) {
	var grow func(done, rest []string)
	grow = func(done, rest []string) {
		if len(rest) == 0 {
			visit(done)
		}
		for i, one := range rest {
			grow(slices.Concat(done, []string{one}), slices.Concat(rest[:i], rest[i+1:]))
		}
	}
	grow(nil, l)
}

// P7.4: names that no message has, those to which the Kind pays no attention, and another order of names change nothing.
func TestOtherNames(t *testing.T) {
	const fault = `"error":{"code":-32700,"message":"x"}`
	ignored := []string{`"":null`, `"x":[{}]`, `"ID":2`, `"Method":"n"`, `"jsonRPC":"1.0"`, `"code":5`, `"message":"y"`, `"data":{"id":3}`, `" id":4`}
	for _, x := range []struct {
		names string
		more  []string
	}{
		{`"jsonrpc":"2.0" "id":1 "method":"m" "params":[1]`, []string{`"result":1`, `"result":null`, fault, `"error":null`, `"error":[1]`}},
		{`"jsonrpc":"2.0" "id":"a" "method":"m"`, []string{`"result":{}`, fault, `"error":{"code":1.5}`}},
		{`"jsonrpc":"2.0" "method":"m" "params":{"id":7}`, []string{`"result":1`, fault, `"error":1`}},
		{`"jsonrpc":"2.0" "method":"m"`, []string{`"result":false`, fault, `"error":""`}},
		{`"jsonrpc":"2.0" "id":1 "result":{"error":1}`, []string{`"params":[]`, `"params":null`, `"params":1`, `"params":{"method":"m"}`}},
		{`"jsonrpc":"2.0" "id":null ` + fault, []string{`"params":[1]`, `"params":"x"`, `"params":false`}},
	} {
		names := strings.Fields(x.names)
		want, e := rpc.Read(parse("{" + strings.Join(names, ",") + "}"))
		if e != api.OK {
			t.Fatalf("Read of %s: %v", x.names, e)
		}
		same := func(l []string) {
			t.Helper()
			s := "{" + strings.Join(l, ",") + "}"
			if m, e := rpc.Read(parse(s)); e != api.OK || !alike(m, want) {
				t.Errorf("Read of %s: %+v, %v, not %+v", s, m, e, want)
			}
			holds(t, s)
		}
		permuted(names, same)
		for _, more := range slices.Concat(ignored, x.more) {
			permuted(slices.Concat(names, []string{more}), same)
		}
		same(slices.Concat(ignored, names))
		same(slices.Concat(names, ignored))
		if !strings.Contains(x.more[0], "params") {
			permuted(slices.Concat(names[:2], names[2:], []string{`"result":[]`, `"error":{}`}), same)
		}
	}
}

// P7.4: other names in error, in any order.
func TestOtherNamesInError(t *testing.T) {
	want := rpc.Message{Kind: rpc.Fault, ID: num("1"), Code: -5, Text: "x"}
	for _, more := range []string{`"data":null`, `"data":{"code":1}`, `"":0`, `"Code":1`, `"MESSAGE":1`, `"text":"y"`, `"id":2`, `"jsonrpc":"1.0"`, `"method":"m"`, `"result":1`, `"error":{"code":1,"message":"y"}`} {
		permuted([]string{`"code":-5`, `"message":"x"`, more, `"z":[]`}, func(l []string) {
			reads(t, `{"jsonrpc":"2.0","id":1,"error":{`+strings.Join(l, ",")+"}}", want)
		})
	}
}

// junk: the value's lists get spare capacity, in which something stands.
func junk(j api.Json) api.Json {
	list := []api.Json{}
	for _, part := range j.List {
		list = append(list, junk(part))
	}
	j.Names = append(slices.Clone(j.Names), "junk", "id", "method")[:len(j.Names)]
	j.List = append(list, str("junk"), num("1"), str("m"))[:len(j.List)]
	return j
}

// whole: a value with what stands in its spare capacity, at its top.
func whole(j api.Json) api.Json {
	return api.Json{Kind: j.Kind, Text: j.Text, Names: j.Names[:len(j.Names)+3], List: j.List[:len(j.List)+3]}
}

// spoil overwrites all lists of a value, and their spare capacity.
func spoil(j api.Json) {
	for i := range j.List {
		spoil(j.List[i])
	}
	for i := range j.Names[:cap(j.Names)] {
		j.Names[:cap(j.Names)][i] = "spoilt"
	}
	for i := range j.List[:cap(j.List)] {
		j.List[:cap(j.List)][i] = str("spoilt")
	}
}

// R3: no call changes its values, or reads what stands in their spare capacity, and what is returned can be overwritten.
func TestArgumentsStay(t *testing.T) {
	r := source()
	for range 1000 {
		m := someMessage(r)
		envelope := parse(textOf(m))
		j, before := junk(envelope), junk(envelope)
		got, e := rpc.Read(j)
		if e != api.OK || !alike(got, m) || !json.Same(rpc.ID(j), rpc.ID(envelope)) {
			t.Fatalf("Read of %s with spare capacity: %+v, %v", textOf(m), got, e)
		}
		for _, part := range []api.Json{got.ID, got.Params, got.Result, rpc.ID(j)} {
			spoil(part)
		}
		if !json.Same(whole(j), whole(before)) {
			t.Fatalf("Read has changed %s", textOf(m))
		}
		full := rpc.Message{Kind: m.Kind, ID: junk(m.ID), Method: m.Method, Params: junk(m.Params), Result: junk(m.Result), Code: m.Code, Text: m.Text}
		written, e := rpc.Write(full)
		if e != api.OK || printed(written) != textOf(m) {
			t.Fatalf("Write of %+v with spare capacity: %v", m, e)
		}
		spoil(written)
		for i, part := range []api.Json{full.ID, full.Params, full.Result} {
			if !json.Same(whole(part), whole(junk([]api.Json{m.ID, m.Params, m.Result}[i]))) {
				t.Fatalf("Write has changed %+v", m)
			}
		}
	}
	// What stands in spare capacity is no name of an envelope.
	j := junk(obj("jsonrpc", str("2.0")))
	if m, e := rpc.Read(j); e != api.ErrRequest || !isZero(m) || !json.Same(rpc.ID(j), null) {
		t.Errorf("Read of spare capacity: %+v, %v", m, e)
	}
}

// R3: no two lists of a result share memory, nor do two results, also where the arguments share theirs.
func TestResultsApart(t *testing.T) {
	shared := arr(arr(num("1")), obj("a", null))
	params := arr(shared, shared, api.Json{Kind: api.Array, List: shared.List})
	want := printed(params)
	m := rpc.Message{Kind: rpc.Request, ID: num("1"), Method: "m", Params: params}
	first, _ := rpc.Write(m)
	second, _ := rpc.Write(m)
	spoil(first)
	read, e := rpc.Read(second)
	again, _ := rpc.Read(second)
	spoil(second)
	if e != api.OK || printed(read.Params) != want || printed(params) != want {
		t.Fatalf("Read: %+v, %v", read, e)
	}
	spoil(again.Params)
	for i := range read.Params.List {
		spoil(read.Params.List[i])
		for _, rest := range read.Params.List[i+1:] {
			if printed(rest) != printed(shared) {
				t.Error("two lists of Read share memory")
			}
		}
	}
	third, _ := rpc.Write(m)
	for i := range third.List[3].List {
		spoil(third.List[3].List[i])
		for _, rest := range third.List[3].List[i+1:] {
			if printed(rest) != printed(shared) {
				t.Error("two lists of Write share memory")
			}
		}
	}
	fault, _ := rpc.Write(aMessage(rpc.Fault))
	spoil(fault.List[2])
	if other, _ := rpc.Write(aMessage(rpc.Fault)); printed(other) != textOf(aMessage(rpc.Fault)) || fault.Names[2] != "error" {
		t.Error("two results of Write share memory")
	}
}

// within says whether a text lies in the memory of another one.
func within(s, whole string) bool {
	from := uintptr(unsafe.Pointer(unsafe.StringData(whole)))
	at := uintptr(unsafe.Pointer(unsafe.StringData(s)))
	return s != "" && at >= from && at < from+uintptr(len(whole))
}

// R3: no text of a result is a part of its argument, which it would keep in memory.
func TestTextsAreNew(t *testing.T) {
	j := obj("jsonrpc id method params", str("2.0"), str("an id"), str("a method"), obj("name", str("value")))
	m, e := rpc.Read(j)
	id := rpc.ID(j)
	if e != api.OK || within(m.ID.Text, j.List[1].Text) || within(id.Text, j.List[1].Text) || within(m.Method, j.List[2].Text) || within(m.Params.Names[0], j.List[3].Names[0]) || within(m.Params.List[0].Text, j.List[3].List[0].Text) {
		t.Errorf("Read: a part of its argument, %v", e)
	}
	written, e := rpc.Write(m)
	if e != api.OK || within(written.List[1].Text, m.ID.Text) || within(written.List[2].Text, m.Method) || within(written.List[3].Names[0], m.Params.Names[0]) || within(written.List[3].List[0].Text, m.Params.List[0].Text) {
		t.Errorf("Write: a part of its argument, %v", e)
	}
	problem := obj("jsonrpc id error", str("2.0"), str("an id"), obj("code message", num("1"), str("some words")))
	fault, e := rpc.Read(problem)
	if e != api.OK || within(fault.Text, problem.List[2].List[1].Text) {
		t.Errorf("Read of a Fault: a part of its argument, %v", e)
	}
	if written, e := rpc.Write(fault); e != api.OK || within(written.List[2].List[1].Text, fault.Text) {
		t.Errorf("Write of a Fault: a part of its argument, %v", e)
	}
}

// R6: an empty list and none are the same, in every field.
func TestEmptyLists(t *testing.T) {
	empty := func(j api.Json) api.Json {
		return api.Json{Kind: j.Kind, Text: j.Text, Names: append([]string{}, j.Names...), List: append([]api.Json{}, j.List...)}
	}
	for _, j := range []api.Json{arr(), obj("")} {
		for _, m := range []rpc.Message{{Kind: rpc.Request, ID: empty(num("1")), Params: empty(j), Result: empty(none)}, {Kind: rpc.Note, ID: empty(none), Params: empty(j)}, {Kind: rpc.Result, ID: empty(str("a")), Params: empty(none), Result: empty(j)}, {Kind: rpc.Fault, ID: empty(null), Params: empty(none), Result: empty(none)}} {
			writes(t, m)
		}
	}
	if m, e := rpc.Read(empty(parse(`{"jsonrpc":"2.0","id":1,"method":"m"}`))); e != api.OK || m.Kind != rpc.Request {
		t.Errorf("Read: %+v, %v", m, e)
	}
	if m, e := rpc.Read(empty(obj(""))); e != api.ErrRequest || !isZero(m) {
		t.Errorf("Read of an empty Object: %+v, %v", m, e)
	}
}

// R1: values whose lists contain themselves, and one whose lists share so much that it has more values than could be counted.
func TestEndlessValues(t *testing.T) {
	list := make([]api.Json, 2)
	endless := api.Json{Kind: api.Object, Names: []string{"a", "b"}, List: list}
	list[0], list[1] = null, endless
	envelope := api.Json{Kind: api.Object, Names: strings.Fields("jsonrpc id method params"), List: make([]api.Json, 4)}
	copy(envelope.List, []api.Json{str("2.0"), num("1"), str("m"), envelope})
	doubled := null
	for range 100 {
		doubled = arr(doubled, doubled)
	}
	for _, j := range []api.Json{endless, envelope, doubled, arr(endless, envelope)} {
		for _, value := range []api.Json{j, obj("jsonrpc id result", str("2.0"), num("1"), j), obj("jsonrpc id method x", str("2.0"), num("1"), str("m"), j)} {
			if m, e := rpc.Read(value); e != api.ErrDeep || !isZero(m) {
				t.Errorf("Read: %s, %v", describe(m), e)
			}
			if id := rpc.ID(value); !json.Same(id, null) {
				t.Errorf("ID: %s", describe(rpc.Message{Result: id}))
			}
		}
		refuses(t, rpc.Message{Kind: rpc.Note, Method: "m", Params: arr(j)}, api.ErrDeep)
		refuses(t, rpc.Message{Kind: rpc.Result, ID: num("1"), Result: j}, api.ErrDeep)
		refuses(t, rpc.Message{Kind: rpc.Fault, ID: api.Json{Kind: api.String, Text: "a", List: []api.Json{j}}}, api.ErrDeep)
		refuses(t, rpc.Message{Kind: rpc.Note, Method: "m", Result: j}, api.ErrForm)
		refuses(t, rpc.Message{Kind: rpc.Note, ID: j, Method: "m"}, api.ErrForm)
		refuses(t, rpc.Message{Kind: 9, Params: j}, api.ErrArg)
	}
}
