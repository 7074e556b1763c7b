package rpc_test

import (
	"math"
	"slices"
	"strings"
	"testing"

	"rostrum/api"
	"rostrum/json"
	"rostrum/rpc"
)

// reads checks Read by hand, and that the model agrees.
func reads(t *testing.T, s string, want rpc.Message) {
	t.Helper()
	if m, e := rpc.Read(parse(s)); e != api.OK || !alike(m, want) {
		t.Errorf("Read of %s: %+v, %v, not %+v", short(s), m, e, want)
	}
	holds(t, s)
}

// strange checks by hand that a text is the envelope of no message, and that the model agrees.
func strange(t *testing.T, s string) {
	t.Helper()
	if m, e := rpc.Read(parse(s)); e != api.ErrRequest || !isZero(m) {
		t.Errorf("Read of %s: %+v, %v, not %v", short(s), m, e, api.ErrRequest)
	}
	if holds(t, s) {
		t.Errorf("the model reads %s", short(s))
	}
}

// P7.1: the chapter's examples.
func TestExamples(t *testing.T) {
	reads(t, `{"jsonrpc":"2.0","id":1,"method":"m","params":[]}`, rpc.Message{Kind: rpc.Request, ID: num("1"), Method: "m", Params: arr()})
	reads(t, `{"jsonrpc":"2.0","method":"m","params":[]}`, rpc.Message{Kind: rpc.Note, Method: "m", Params: arr()})
	reads(t, `{"jsonrpc":"2.0","id":null,"error":{"code":-32700,"message":"x"}}`, rpc.Message{Kind: rpc.Fault, ID: null, Code: -32700, Text: "x"})
	strange(t, `{"jsonrpc":"2.0","id":null,"method":"m","params":[]}`)
	strange(t, `{"jsonrpc":"2.0","id":1.5,"method":"m","params":[]}`)
	strange(t, `{"jsonrpc":"1.0","id":1,"method":"m","params":[]}`)
	strange(t, `{"jsonrpc":"2.0","id":1,"result":1,"error":{"code":1,"message":"x"}}`)
	if id := rpc.ID(parse(`{"id":"a"}`)); !json.Same(id, str("a")) {
		t.Errorf("ID of a String: %+v", id)
	}
	if id := rpc.ID(parse(`{"id":1.5}`)); !json.Same(id, null) {
		t.Errorf("ID of a fraction: %+v", id)
	}
}

// Terms: the numbers of the Kinds and of the codes.
func TestNumbers(t *testing.T) {
	if l := []uint8{rpc.Request, rpc.Note, rpc.Result, rpc.Fault}; !slices.Equal(l, []uint8{1, 2, 3, 4}) {
		t.Errorf("the Kinds: %v", l)
	}
	l := []int{rpc.Broken, rpc.Strange, rpc.Unknown, rpc.Params, rpc.Early, rpc.Cancelled, rpc.Refused, rpc.Full, rpc.Great}
	if !slices.Equal(l, []int{-32700, -32600, -32601, -32602, -32002, -32800, -32803, -32000, -32001}) {
		t.Errorf("the codes: %v", l)
	}
}

// P7.1: messages of every Kind, by hand.
func TestRead(t *testing.T) {
	params := obj("a b", num("1"), arr(str("x"), null))
	for s, want := range map[string]rpc.Message{
		`{"jsonrpc":"2.0","id":1,"method":"m"}`:                                                       {Kind: rpc.Request, ID: num("1"), Method: "m"},
		`{"jsonrpc":"2.0","id":"","method":""}`:                                                       {Kind: rpc.Request, ID: str("")},
		`{"jsonrpc":"2.0","id":"a","method":"textDocument/hover","params":{"a":1,"b":["x",null]}}`:    {Kind: rpc.Request, ID: str("a"), Method: "textDocument/hover", Params: params},
		`{"jsonrpc":"2.0","id":-1,"method":"\u00e9\ud834\udd1e\n","params":[{"a":1,"b":["x",null]}]}`: {Kind: rpc.Request, ID: num("-1"), Method: "\u00e9\U0001d11e\n", Params: arr(params)},
		`{"jsonrpc":"2.0","method":"m"}`:                                                              {Kind: rpc.Note, Method: "m"},
		`{"jsonrpc":"2.0","method":""}`:                                                               {Kind: rpc.Note},
		`{"jsonrpc":"2.0","method":"$/cancelRequest","params":{}}`:                                    {Kind: rpc.Note, Method: "$/cancelRequest", Params: obj("")},
		`{"jsonrpc":"2.0","id":1,"result":null}`:                                                      {Kind: rpc.Result, ID: num("1"), Result: null},
		`{"jsonrpc":"2.0","id":1,"result":false}`:                                                     {Kind: rpc.Result, ID: num("1"), Result: no},
		`{"jsonrpc":"2.0","id":"x","result":0}`:                                                       {Kind: rpc.Result, ID: str("x"), Result: num("0")},
		`{"jsonrpc":"2.0","id":1,"result":""}`:                                                        {Kind: rpc.Result, ID: num("1"), Result: str("")},
		`{"jsonrpc":"2.0","id":1,"result":[]}`:                                                        {Kind: rpc.Result, ID: num("1"), Result: arr()},
		`{"jsonrpc":"2.0","id":1,"result":{"a":1,"b":["x",null]}}`:                                    {Kind: rpc.Result, ID: num("1"), Result: params},
		`{"jsonrpc":"2.0","id":1,"error":{"code":0,"message":""}}`:                                    {Kind: rpc.Fault, ID: num("1")},
		`{"jsonrpc":"2.0","id":"1","error":{"code":-32601,"message":"no \"x\""}}`:                     {Kind: rpc.Fault, ID: str("1"), Code: rpc.Unknown, Text: "no \"x\""},
		`{"jsonrpc":"2.0","id":null,"error":{"code":7,"message":"\u20ac"}}`:                           {Kind: rpc.Fault, ID: null, Code: 7, Text: "\u20ac"},
		`{"\u006asonrpc":"\u0032.0","\u0069d":"\u0061","m\u0065thod":"\u006d","params":[]}`:           {Kind: rpc.Request, ID: str("a"), Method: "m", Params: arr()},
	} {
		reads(t, s, want)
	}
}

// wholes are texts of integers of 64 bits, and their canonical forms and values; the limits, and integers with exponents and points.
var wholes = []struct {
	text, own string
	value     int
}{
	{"0", "0", 0}, {"-0", "0", 0}, {"0.0", "0", 0}, {"0e99999", "0", 0}, {"-0.00e-7", "0", 0}, {"1", "1", 1}, {"-1", "-1", -1}, {"1.0", "1", 1}, {"1.5e1", "15", 15}, {"-10e-1", "-1", -1}, {"100", "1e2", 100}, {"1E+2", "1e2", 100}, {"0.001e3", "1", 1}, {"12000e-3", "12", 12}, {"1e18", "1e18", 1000000000000000000}, {"-32700", "-327e2", -32700},
	{"9223372036854775807", "9223372036854775807", math.MaxInt64}, {"9223372036854775807.0", "9223372036854775807", math.MaxInt64}, {"9.223372036854775807e18", "9223372036854775807", math.MaxInt64}, {"9223372036854775807000e-3", "9223372036854775807", math.MaxInt64}, {"0.9223372036854775807E+19", "9223372036854775807", math.MaxInt64},
	{"-9223372036854775808", "-9223372036854775808", math.MinInt64}, {"-9223372036854775808.00", "-9223372036854775808", math.MinInt64}, {"-9.223372036854775808e18", "-9223372036854775808", math.MinInt64}, {"-92233720368547758080e-1", "-9223372036854775808", math.MinInt64},
	{"9223372036854775800", "92233720368547758e2", 9223372036854775800}, {"-9223372036854775807", "-9223372036854775807", -9223372036854775807}, {"4294967296", "4294967296", 1 << 32}, {"9007199254740993", "9007199254740993", 1<<53 + 1},
}

// fractions and numbers outside 64 bits, the first ones at the limits.
var others = []string{
	"9223372036854775808", "9223372036854775808.0", "9.223372036854775808e18", "9223372036854775808000e-3", "-9223372036854775809", "-9223372036854775809.0", "-9.223372036854775809E+18", "-92233720368547758090e-1", "9223372036854775807.5", "-9223372036854775808.5", "9223372036854775807.0000000001", "9223372036854775810",
	"1.5", "0.5", "-0.1", "15e-1", "1e-1", "1e-9999", "-32700.5", "0.0000000000000000000001", "1e19", "-1e19", "1e9999", "-1e9999", "18446744073709551616", "18446744073709551617", "1.8446744073709551616e19", "36893488147419103233", "4294967296e10",
}

// P7.1: an id and a code are integers of 64 bits, however they are written.
func TestWholeNumbers(t *testing.T) {
	for _, x := range wholes {
		id := num(x.own)
		reads(t, `{"jsonrpc":"2.0","id":`+x.text+`,"method":"m"}`, rpc.Message{Kind: rpc.Request, ID: id, Method: "m"})
		reads(t, `{"jsonrpc":"2.0","id":`+x.text+`,"result":`+x.text+`}`, rpc.Message{Kind: rpc.Result, ID: id, Result: id})
		reads(t, `{"jsonrpc":"2.0","id":`+x.text+`,"error":{"code":`+x.text+`,"message":"x"}}`, rpc.Message{Kind: rpc.Fault, ID: id, Code: x.value, Text: "x"})
		if got := rpc.ID(parse(`{"id":` + x.text + `}`)); !json.Same(got, id) {
			t.Errorf("ID of %s: %+v", x.text, got)
		}
	}
	for _, x := range others {
		strange(t, `{"jsonrpc":"2.0","id":`+x+`,"method":"m"}`)
		strange(t, `{"jsonrpc":"2.0","id":`+x+`,"result":1}`)
		strange(t, `{"jsonrpc":"2.0","id":`+x+`,"error":{"code":1,"message":"x"}}`)
		strange(t, `{"jsonrpc":"2.0","id":1,"error":{"code":`+x+`,"message":"x"}}`)
		if got := rpc.ID(parse(`{"id":` + x + `}`)); !json.Same(got, null) {
			t.Errorf("ID of %s: %+v", x, got)
		}
		reads(t, `{"jsonrpc":"2.0","id":1,"result":`+x+`}`, rpc.Message{Kind: rpc.Result, ID: num("1"), Result: parse(x)})
	}
}

// P7.1: an id is an integer or a String; Null is one of a Fault alone, and just a Note has none.
func TestIDs(t *testing.T) {
	bodies := []string{`"method":"m"`, `"method":"m","params":{}`, `"result":1`, `"error":{"code":1,"message":"x"}`}
	for _, body := range bodies {
		for _, id := range []string{"1", `""`, `"a"`, `"1.5"`, `"null"`, `"\u0000"`, `"\ud834\udd1e"`, `"` + rep("x", 1000) + `"`} {
			m, e := rpc.Read(parse(`{"jsonrpc":"2.0","id":` + id + "," + body + "}"))
			if e != api.OK || !json.Same(m.ID, parse(id)) {
				t.Errorf("Read with id %s, %s: %+v, %v", short(id), body, m, e)
			}
			holds(t, `{"jsonrpc":"2.0","id":`+id+","+body+"}")
		}
		for _, id := range []string{"true", "false", "[]", "{}", "[1]", `["a"]`, `{"id":1}`} {
			strange(t, `{"jsonrpc":"2.0","id":`+id+","+body+"}")
		}
		if !strings.Contains(body, "error") {
			strange(t, `{"jsonrpc":"2.0","id":null,`+body+"}")
		}
		if !strings.Contains(body, "method") {
			strange(t, `{"jsonrpc":"2.0",`+body+"}")
		}
	}
}

// P7.1: params are an Array, an Object or absent, for a Request and a Note.
func TestParams(t *testing.T) {
	for _, id := range []string{"", `"id":1,`} {
		for _, params := range []string{"[]", "{}", "[null]", `[1,"a",[{}]]`, `{"a":null}`, `{"params":{"params":[]}}`} {
			m, e := rpc.Read(parse(`{"jsonrpc":"2.0",` + id + `"method":"m","params":` + params + "}"))
			if e != api.OK || !json.Same(m.Params, parse(params)) {
				t.Errorf("Read with params %s: %+v, %v", params, m, e)
			}
			holds(t, `{"jsonrpc":"2.0",`+id+`"method":"m","params":`+params+"}")
		}
		for _, params := range []string{"null", "true", "false", "0", "1", "1.5", `""`, `"[]"`, `"a"`} {
			strange(t, `{"jsonrpc":"2.0",`+id+`"method":"m","params":`+params+"}")
		}
	}
}

// P7.1: jsonrpc is the String 2.0, of every Kind.
func TestVersions(t *testing.T) {
	for _, body := range []string{`"id":1,"method":"m"`, `"method":"m"`, `"id":1,"result":1`, `"id":null,"error":{"code":1,"message":"x"}`} {
		if !holds(t, `{"jsonrpc":"2.0",`+body+"}") || !holds(t, "{"+body+`,"jsonrpc":"2.\u0030"}`) {
			t.Errorf("%s is not read", body)
		}
		strange(t, "{"+body+"}")
		for _, version := range []string{`"1.0"`, `"2"`, `"2.1"`, `"2.00"`, `"02.0"`, `" 2.0"`, `"2.0 "`, `"2.0\u0000"`, `"2,0"`, `""`, "2", "2.0", "20e-1", "null", "true", "false", "[]", "{}", `["2.0"]`, `{"2.0":"2.0"}`} {
			strange(t, `{"jsonrpc":`+version+","+body+"}")
		}
		for _, name := range []string{"", "JSONRPC", "jsonRpc", "jsonrp", "jsonrpc ", "rpc"} {
			strange(t, `{"`+name+`":"2.0",`+body+"}")
		}
	}
}

// P7.1: a method is a String; something else is none, and does not make a reply of what has a result.
func TestMethods(t *testing.T) {
	for _, rest := range []string{"", `,"id":1`, `,"id":1,"params":[]`, `,"id":1,"result":1`, `,"id":1,"error":{"code":1,"message":"x"}`, `,"id":null,"error":{"code":1,"message":"x"}`, `,"result":1`} {
		for _, method := range []string{"null", "true", "false", "0", "1", "[]", "{}", `["m"]`, `{"method":"m"}`} {
			strange(t, `{"jsonrpc":"2.0","method":`+method+rest+"}")
		}
		for _, name := range []string{"Method", "METHOD", "methods", "metho", ""} {
			s := `{"jsonrpc":"2.0","` + name + `":"m"` + rest + "}"
			if reply := strings.Contains(rest, `"id"`) && (strings.Contains(rest, "result") || strings.Contains(rest, "error")); holds(t, s) != reply {
				t.Errorf("Read of %s: not %v", s, reply)
			}
		}
	}
	strange(t, `{"jsonrpc":"2.0","id":null,"method":"m","error":{"code":1,"message":"x"}}`)
	strange(t, `{"jsonrpc":"2.0","id":null,"method":"m","result":1}`)
}

// P7.1: a reply has either result or error, also if they are Null.
func TestReplies(t *testing.T) {
	const fault = `"error":{"code":1,"message":"x"}`
	for _, id := range []string{`"id":1`, `"id":"a"`, `"id":null`} {
		strange(t, `{"jsonrpc":"2.0",`+id+"}")
		strange(t, `{"jsonrpc":"2.0",`+id+`,"params":[]}`)
		for _, result := range []string{"null", "1", "false", "{}"} {
			strange(t, `{"jsonrpc":"2.0",`+id+`,"result":`+result+","+fault+"}")
			strange(t, `{"jsonrpc":"2.0",`+id+","+fault+`,"result":`+result+"}")
			strange(t, `{"jsonrpc":"2.0",`+id+`,"result":`+result+`,"error":null}`)
			strange(t, `{"jsonrpc":"2.0",`+id+`,"result":`+result+`,"error":{}}`)
		}
	}
}

// P7.1: error is an Object with code, an integer, and message, a String.
func TestErrors(t *testing.T) {
	for _, id := range []string{"1", `"a"`, "null"} {
		front := `{"jsonrpc":"2.0","id":` + id + `,"error":`
		reads(t, front+`{"code":-1e1,"message":"\t"}}`, rpc.Message{Kind: rpc.Fault, ID: parse(id), Code: -10, Text: "\t"})
		reads(t, front+`{"message":"","code":1}}`, rpc.Message{Kind: rpc.Fault, ID: parse(id), Code: 1})
		for _, problem := range []string{"null", "true", "1", `"x"`, `[]`, `[1,"x"]`, `{}`, `{"code":1}`, `{"message":"x"}`, `[{"code":1,"message":"x"}]`, `{"error":{"code":1,"message":"x"}}`} {
			strange(t, front+problem+"}")
		}
		for _, code := range []string{"null", "true", "false", `"1"`, `""`, "[]", "[1]", "{}", `{"code":1}`, "1.5", "1e19"} {
			strange(t, front+`{"code":`+code+`,"message":"x"}}`)
		}
		for _, words := range []string{"null", "true", "false", "1", "0", "[]", "{}", `["x"]`, `{"message":"x"}`} {
			strange(t, front+`{"code":1,"message":`+words+`}}`)
		}
		for _, names := range []string{`"Code":1,"message":"x"`, `"code":1,"Message":"x"`, `"code":1,"text":"x"`, `"code ":1,"message":"x"`} {
			strange(t, front+"{"+names+"}}")
		}
	}
}

// P7.1: what is no Object is no envelope.
func TestNoObjects(t *testing.T) {
	for _, s := range []string{"null", "true", "false", "0", "1", "1.5", `""`, `"2.0"`, "[]", `["2.0"]`, `[{"jsonrpc":"2.0","id":1,"method":"m"}]`, `["jsonrpc","2.0","id",1,"method","m"]`, "{}", `{"":{"jsonrpc":"2.0","id":1,"method":"m"}}`} {
		strange(t, s)
		if id := rpc.ID(parse(s)); !json.Same(id, null) {
			t.Errorf("ID of %s: %+v", s, id)
		}
	}
	strange(t, `"{\"jsonrpc\":\"2.0\",\"id\":1,\"method\":\"m\"}"`)
}

// P7.1, P7.2: each of the names absent, or with values that a message has and others, in all combinations.
func TestAllEnvelopes(t *testing.T) {
	choices := []struct {
		name   string
		values []string
	}{
		{"jsonrpc", []string{"", `"2.0"`, `"1.0"`, "2"}},
		{"id", []string{"", "1", `"a"`, "null", "1.5", "[1]", "true", "9223372036854775808"}},
		{"method", []string{"", `"m"`, `""`, "null", "1", `["m"]`}},
		{"params", []string{"", "[]", `{"a":1}`, "null", `"x"`}},
		{"result", []string{"", "1", "null"}},
		{"error", []string{"", `{"code":1,"message":"x"}`, `{"code":-100,"message":""}`, `{"code":1}`, `{"message":"x"}`, `{"code":"1","message":"x"}`, `{"code":1.5,"message":"x"}`, `{"code":1,"message":2}`, "null", `[1,"x"]`, `{"data":[],"message":"y","code":9}`}},
	}
	all, read := 0, 0
	var grow func(names []string, at int)
	grow = func(names []string, at int) {
		if at == len(choices) {
			all++
			if holds(t, "{"+strings.Join(names, ",")+"}") {
				read++
			}
			return
		}
		for _, value := range choices[at].values {
			more := slices.Clone(names)
			if value != "" {
				more = append(more, `"`+choices[at].name+`":`+value)
			}
			grow(more, at+1)
		}
	}
	grow(nil, 0)
	// jsonrpc 2.0; a Request: 2 ids, 2 methods, 3 params; a Note without id; a Result: 2 ids, 5 params, 2 results; a Fault: 3 ids, 5 params, 3 errors.
	if want := 2*2*3*3*11 + 2*3*3*11 + 2*5*2 + 3*5*3; read != want {
		t.Errorf("%d of %d are read, not %d", read, all, want)
	}
}

// flawed are values that json.Check refuses, for each of its errors.
var flawed = map[api.Errno][]api.Json{
	api.ErrDeep:     {nested(api.MaxNest, null), nested(api.MaxNest+10, null), arr(null, nested(api.MaxNest, num("x")))},
	api.ErrTooLarge: {many(api.MaxItems, null), arr(null, many(api.MaxItems, num("x"))), obj("a a", many(api.MaxItems, null), null)},
	api.ErrForm:     {{}, {Kind: 9}, num("10"), num("1.0"), num(""), str("\xff"), arr(none), arr(api.Json{Kind: 8}), obj("a"), obj("a", null, null), {Kind: api.Array, Names: []string{"a"}, List: []api.Json{null}}, {Kind: api.Object, Names: []string{"\xff"}, List: []api.Json{null}}, {Kind: api.Null, Text: "x"}, {Kind: api.String, Names: []string{"a"}}, {Kind: api.Number, Text: "1", List: []api.Json{null}}, obj("a a", null, str("\x80"))},
	api.ErrTwice:    {obj("a a", null, null), arr(null, obj("b a b", null, yes, no)), obj("a", obj("jsonrpc jsonrpc", str("2.0"), str("2.0")))},
}

// with is a value with a name and its value besides.
func with(j api.Json, name string, value api.Json) api.Json {
	return api.Json{Kind: j.Kind, Text: j.Text, Names: slices.Concat(j.Names, []string{name}), List: slices.Concat(j.List, []api.Json{value})}
}

// P7.1, P7.2: the error of json.Check comes first, wherever it is: of an envelope or not, in a name that a message has or in another one.
func TestReadOfInvalidValues(t *testing.T) {
	fails := func(j api.Json, want api.Errno) {
		t.Helper()
		if m, e := rpc.Read(j); e != want || !isZero(m) {
			t.Errorf("Read of %s: %s, %v, not %v", describe(rpc.Message{Result: j}), describe(m), e, want)
		}
		if id := rpc.ID(j); !json.Same(id, null) {
			t.Errorf("ID of %s: %+v", describe(rpc.Message{Result: j}), id)
		}
	}
	version, one := str("2.0"), num("1")
	envelopes := []api.Json{obj("jsonrpc id method", version, one, str("m")), obj("jsonrpc method", version, str("m")), obj("jsonrpc id result", version, one, null), obj("jsonrpc id error", version, one, obj("code message", one, str("x"))), obj("jsonrpc id", version, one), obj("id", one), obj("")}
	for want, l := range flawed {
		for _, j := range l {
			fails(j, want)
			for _, envelope := range envelopes {
				fails(with(envelope, "x", j), want)
				fails(api.Json{Kind: api.Object, Names: slices.Concat([]string{"x"}, envelope.Names), List: slices.Concat([]api.Json{j}, envelope.List)}, want)
			}
			fails(with(envelopes[0], "params", j), want)
			fails(with(envelopes[0], "result", j), want)
			fails(with(envelopes[0], "error", j), want)
			fails(with(envelopes[2], "params", j), want)
			fails(obj("id jsonrpc method", j, version, str("m")), want)
			fails(obj("id jsonrpc result", one, version, j), want)
			fails(obj("id jsonrpc error", one, version, j), want)
			fails(obj("id jsonrpc error", one, version, obj("code message data", one, str("x"), j)), want)
			fails(obj("jsonrpc method", j, str("m")), want)
			fails(obj("jsonrpc method", version, j), want)
		}
	}
	for _, envelope := range envelopes[:6] {
		fails(with(envelope, envelope.Names[0], envelope.List[0]), api.ErrTwice)
		fails(api.Json{Kind: api.Array, Names: envelope.Names, List: envelope.List}, api.ErrForm)
		fails(api.Json{Kind: api.Object, Text: "x", Names: envelope.Names, List: envelope.List}, api.ErrForm)
		fails(api.Json{Names: envelope.Names, List: envelope.List}, api.ErrForm)
		fails(api.Json{Kind: api.Object, Names: envelope.Names, List: envelope.List[:len(envelope.List)-1]}, api.ErrForm)
	}
}
