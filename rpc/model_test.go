package rpc_test

import (
	library "encoding/json"
	"math/big"
	"math/rand/v2"
	"slices"
	"strconv"
	"strings"
	"testing"

	"rostrum/api"
	"rostrum/json"
	"rostrum/rpc"
)

// The chapter's terms over texts, with the library's JSON and big numbers, so that the package is held against something that shares no code with it (but package json for values within an envelope, which has tests of its own).

var (
	null = api.Json{Kind: api.Null}
	yes  = api.Json{Kind: api.True}
	no   = api.Json{Kind: api.False}
	none api.Json
)

func num(s string) api.Json { return api.Json{Kind: api.Number, Text: s} }

func str(s string) api.Json { return api.Json{Kind: api.String, Text: s} }

func arr(l ...api.Json) api.Json { return api.Json{Kind: api.Array, List: l} }

// obj: names, separated by blanks, and their values.
func obj(names string, l ...api.Json) api.Json {
	return api.Json{Kind: api.Object, Names: strings.Fields(names), List: l}
}

// nested: a value within so many Arrays.
func nested(times int, j api.Json) api.Json {
	for range times {
		j = arr(j)
	}
	return j
}

// many: a value, so many times, in an Array.
func many(times int, j api.Json) api.Json { return arr(slices.Repeat([]api.Json{j}, times)...) }

// rep is a text, so many times.
func rep(s string, times int) string { return strings.Repeat(s, times) }

// short is a text for a message.
func short(s string) string {
	if len(s) > 300 {
		s = s[:150] + ".." + s[len(s)-150:] + ": " + strconv.Itoa(len(s)) + " bytes"
	}
	return s
}

// alike: two messages, valid or not.
func alike(a, b rpc.Message) bool {
	return a.Kind == b.Kind && json.Same(a.ID, b.ID) && a.Method == b.Method && json.Same(a.Params, b.Params) && json.Same(a.Result, b.Result) && a.Code == b.Code && a.Text == b.Text
}

// isZero: nothing at all.
func isZero(m rpc.Message) bool { return alike(m, rpc.Message{}) }

// parse: the value of a text that is JSON.
func parse(s string) api.Json {
	j, e := json.Parse(s)
	if e != api.OK {
		panic("Parse of " + short(s) + ": " + e.Error())
	}
	return j
}

// printed: the text of a value that is valid.
func printed(j api.Json) string {
	s, e := json.Print(j)
	if e != api.OK {
		panic("Print: " + e.Error())
	}
	return s
}

// modelInteger: the value of a text, if it is an integer of 64 bits.
func modelInteger(raw library.RawMessage) (int, bool) {
	if len(raw) == 0 || !strings.Contains("-0123456789", string(raw[:1])) {
		return 0, false
	}
	value, ok := new(big.Rat).SetString(string(raw))
	if !ok || !value.IsInt() || !value.Num().IsInt64() {
		return 0, false
	}
	return int(value.Num().Int64()), true
}

// begins: whether there is a value, and its text begins so.
func begins(raw library.RawMessage, with string) bool { return strings.HasPrefix(string(raw), with) }

// modelString: the value of a text, if it is a String.
func modelString(raw library.RawMessage) (string, bool) {
	if !begins(raw, `"`) {
		return "", false
	}
	var s string
	err := library.Unmarshal(raw, &s)
	return s, err == nil
}

// members: those of a text, if it is an Object; none otherwise.
func members(s string) map[string]library.RawMessage {
	var l map[string]library.RawMessage
	if library.Unmarshal([]byte(s), &l) != nil {
		return nil
	}
	return l
}

// modelID: the id in a text, or Null, and whether there is one.
func modelID(s string) (api.Json, bool) {
	raw := members(s)["id"]
	if _, ok := modelInteger(raw); ok || begins(raw, `"`) {
		return parse(string(raw)), true
	}
	return null, false
}

// modelRead: what Read must return of the value of a text; false: ErrRequest.
func modelRead(s string) (rpc.Message, bool) {
	l := members(s)
	if version, ok := modelString(l["jsonrpc"]); !ok || version != "2.0" {
		return rpc.Message{}, false
	}
	id, named := modelID(s)
	if l["method"] != nil {
		m := rpc.Message{Kind: rpc.Note}
		if l["id"] != nil {
			m.Kind, m.ID = rpc.Request, id
		}
		var ok bool
		m.Method, ok = modelString(l["method"])
		if raw := l["params"]; raw != nil {
			m.Params = parse(string(raw))
			ok = ok && (begins(raw, "[") || begins(raw, "{"))
		}
		return m, ok && (named || l["id"] == nil)
	}
	if l["id"] == nil || (l["result"] == nil) == (l["error"] == nil) {
		return rpc.Message{}, false
	}
	if raw := l["result"]; raw != nil {
		return rpc.Message{Kind: rpc.Result, ID: id, Result: parse(string(raw))}, named
	}
	problem := members(string(l["error"]))
	code, coded := modelInteger(problem["code"])
	words, worded := modelString(problem["message"])
	return rpc.Message{Kind: rpc.Fault, ID: id, Code: code, Text: words}, coded && worded && (named || begins(l["id"], "null"))
}

// textOf: the text of the envelope of a valid message.
func textOf(m rpc.Message) string {
	s := `{"jsonrpc":"2.0"`
	if m.Kind != rpc.Note {
		s += `,"id":` + printed(m.ID)
	}
	if m.Kind == rpc.Request || m.Kind == rpc.Note {
		s += `,"method":` + printed(str(m.Method))
		if m.Params.Kind != 0 {
			s += `,"params":` + printed(m.Params)
		}
	}
	if m.Kind == rpc.Result {
		s += `,"result":` + printed(m.Result)
	}
	if m.Kind == rpc.Fault {
		code := printed(parse(strconv.Itoa(m.Code)))
		s += `,"error":{"code":` + code + `,"message":` + printed(str(m.Text)) + `}`
	}
	return s + "}"
}

// holds holds Read and ID of a JSON text's value against the model, and says whether it is an envelope; what is read must be written and read again as the chapter says.
func holds(t *testing.T, s string) bool {
	t.Helper()
	j := parse(s)
	if id, _ := modelID(s); !json.Same(rpc.ID(j), id) {
		t.Fatalf("ID of %s: %+v", short(s), rpc.ID(j))
	}
	want, ok := modelRead(s)
	m, e := rpc.Read(j)
	if !ok {
		if e != api.ErrRequest || !isZero(m) {
			t.Fatalf("Read of %s: %+v, %v, not %v", short(s), m, e, api.ErrRequest)
		}
		return false
	}
	if e != api.OK || !alike(m, want) {
		t.Fatalf("Read of %s: %+v, %v, not %+v", short(s), m, e, want)
	}
	writes(t, m)
	return true
}

// writes: a valid message is written as its envelope, and this is read as that message.
func writes(t *testing.T, m rpc.Message) {
	t.Helper()
	j, e := rpc.Write(m)
	if e != api.OK {
		t.Fatalf("Write of %+v: %v", m, e)
	}
	if s, e := json.Print(j); e != api.OK || s != textOf(m) {
		t.Fatalf("Write of %+v: %s, %v, not %s", m, short(s), e, short(textOf(m)))
	}
	if back, e := rpc.Read(j); e != api.OK || !alike(back, m) {
		t.Fatalf("Read of what was written of %+v: %+v, %v", m, back, e)
	}
}

// refuses: a message is not written, and nothing is returned beside the error.
func refuses(t *testing.T, m rpc.Message, want api.Errno) {
	t.Helper()
	if j, e := rpc.Write(m); e != want || !json.Same(j, none) {
		t.Errorf("Write of %s: %s, %v, not %v", describe(m), describe(rpc.Message{Result: j}), e, want)
	}
}

// describe is a message for a message; values may be of any size and have no end.
func describe(m rpc.Message) string {
	s := "Kind " + strconv.Itoa(int(m.Kind)) + ", Method " + strconv.Quote(short(m.Method)) + ", Code " + strconv.Itoa(m.Code) + ", Text " + strconv.Quote(short(m.Text))
	for _, j := range []api.Json{m.ID, m.Params, m.Result} {
		s += ", a value of Kind " + strconv.Itoa(int(j.Kind)) + ", " + strconv.Quote(short(j.Text)) + ", of " + strconv.Itoa(len(j.Names)) + " names and " + strconv.Itoa(len(j.List)) + " values"
	}
	return s
}

// source makes the same numbers in every run.
func source() *rand.Rand { return rand.New(rand.NewPCG(7, 2026)) }

// pick: one of some texts.
func pick(r *rand.Rand, l ...string) string { return l[r.IntN(len(l))] }

// someText: a JSON text of some depth; those of an envelope's parts among them.
func someText(r *rand.Rand, depth int) string {
	if depth == 0 || r.IntN(2) == 0 {
		return pick(r, "null", "true", "false", "0", "1", "-7", "1.5", "1e3", `""`, `"2.0"`, `"a"`, `"\u00e9\n"`, `"\ud834\udd1e"`, "[]", "{}")
	}
	var parts []string
	names := []string{`"id"`, `"code"`, `"message"`, `"jsonrpc"`, `"x"`}
	object := r.IntN(2) == 0
	for i := range r.IntN(4) {
		part := someText(r, depth-1)
		if object {
			part = names[i] + ":" + part
		}
		parts = append(parts, part)
	}
	if object {
		return "{" + strings.Join(parts, ",") + "}"
	}
	return "[" + strings.Join(parts, ",") + "]"
}

// someString: a few characters of all lengths.
func someString(r *rand.Rand) string {
	s := ""
	for range r.IntN(5) {
		s += pick(r, "a", "/", "$", "\"", "\\", "\x00", "\n", "\u00e9", "\u20ac", "\U0001d11e", "2.0", "method")
	}
	return s
}

// someMessage: a valid message.
func someMessage(r *rand.Rand) rpc.Message {
	id := parse(pick(r, "0", "1", "-1", "100", "9223372036854775807", "-9223372036854775808", `""`, `"a"`, `"1"`, `"null"`, printed(str(someString(r)))))
	m := rpc.Message{Kind: uint8(1 + r.IntN(4))}
	if m.Kind != rpc.Note {
		m.ID = id
	}
	switch m.Kind {
	case rpc.Request, rpc.Note:
		m.Method = someString(r)
		if params := parse(someText(r, 4)); params.Kind == api.Array || params.Kind == api.Object {
			m.Params = params
		}
	case rpc.Result:
		m.Result = parse(someText(r, 4))
	default:
		m.Text = someString(r)
		m.Code = []int{0, 1, -1, rpc.Broken, rpc.Great, 1 << 62, -1 << 63, 1<<63 - 1, r.Int()}[r.IntN(9)]
		if r.IntN(3) == 0 {
			m.ID = null
		}
	}
	return m
}
