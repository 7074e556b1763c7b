package rpc_test

import (
	"maps"
	"math"
	"slices"
	"strings"
	"testing"

	"rostrum/api"
	"rostrum/json"
	"rostrum/rpc"
)

// prints checks by hand that a message is written as this text's value.
func prints(t *testing.T, m rpc.Message, want string) {
	t.Helper()
	j, e := rpc.Write(m)
	if e != api.OK {
		t.Errorf("Write of %+v: %v", m, e)
		return
	}
	if s := printed(j); s != want {
		t.Errorf("Write of %+v: %s, not %s", m, s, want)
	}
	writes(t, m)
}

// P7.1: envelopes of every Kind, by hand; the names in their order.
func TestWrite(t *testing.T) {
	one, list := num("1"), arr(num("15e-1"), obj("a", null))
	for want, m := range map[string]rpc.Message{
		`{"jsonrpc":"2.0","id":1,"method":"m"}`:                                   {Kind: rpc.Request, ID: one, Method: "m"},
		`{"jsonrpc":"2.0","id":1e2,"method":"","params":[]}`:                      {Kind: rpc.Request, ID: num("1e2"), Params: arr()},
		`{"jsonrpc":"2.0","id":"","method":"a/b","params":{}}`:                    {Kind: rpc.Request, ID: str(""), Method: "a/b", Params: obj("")},
		`{"jsonrpc":"2.0","id":"1","method":"\"","params":[15e-1,{"a":null}]}`:    {Kind: rpc.Request, ID: str("1"), Method: "\"", Params: list},
		`{"jsonrpc":"2.0","method":"m"}`:                                          {Kind: rpc.Note, Method: "m"},
		`{"jsonrpc":"2.0","method":""}`:                                           {Kind: rpc.Note},
		`{"jsonrpc":"2.0","method":"m","params":[15e-1,{"a":null}]}`:              {Kind: rpc.Note, Method: "m", Params: list},
		`{"jsonrpc":"2.0","method":"m","params":{"method":{}}}`:                   {Kind: rpc.Note, Method: "m", Params: obj("method", obj(""))},
		`{"jsonrpc":"2.0","id":1,"result":null}`:                                  {Kind: rpc.Result, ID: one, Result: null},
		`{"jsonrpc":"2.0","id":-1,"result":false}`:                                {Kind: rpc.Result, ID: num("-1"), Result: no},
		`{"jsonrpc":"2.0","id":0,"result":"x"}`:                                   {Kind: rpc.Result, ID: num("0"), Result: str("x")},
		`{"jsonrpc":"2.0","id":"a","result":[15e-1,{"a":null}]}`:                  {Kind: rpc.Result, ID: str("a"), Result: list},
		`{"jsonrpc":"2.0","id":1,"error":{"code":0,"message":""}}`:                {Kind: rpc.Fault, ID: one},
		`{"jsonrpc":"2.0","id":null,"error":{"code":-327e2,"message":"x"}}`:       {Kind: rpc.Fault, ID: null, Code: rpc.Broken, Text: "x"},
		`{"jsonrpc":"2.0","id":"a","error":{"code":-32601,"message":"\n\u20ac"}}`: {Kind: rpc.Fault, ID: str("a"), Code: rpc.Unknown, Text: "\n\u20ac"},
	} {
		prints(t, m, strings.ReplaceAll(want, `\u20ac`, "\u20ac"))
	}
}

// P7.1: ids and codes at the limits of 64 bits, and one outside.
func TestWriteWholeNumbers(t *testing.T) {
	for _, x := range wholes {
		prints(t, rpc.Message{Kind: rpc.Request, ID: num(x.own), Method: "m"}, `{"jsonrpc":"2.0","id":`+x.own+`,"method":"m"}`)
		prints(t, rpc.Message{Kind: rpc.Result, ID: num(x.own), Result: null}, `{"jsonrpc":"2.0","id":`+x.own+`,"result":null}`)
		prints(t, rpc.Message{Kind: rpc.Fault, ID: num(x.own), Code: x.value}, `{"jsonrpc":"2.0","id":`+x.own+`,"error":{"code":`+x.own+`,"message":""}}`)
	}
	prints(t, rpc.Message{Kind: rpc.Fault, ID: null, Code: math.MinInt}, `{"jsonrpc":"2.0","id":null,"error":{"code":-9223372036854775808,"message":""}}`)
	prints(t, rpc.Message{Kind: rpc.Fault, ID: null, Code: math.MaxInt}, `{"jsonrpc":"2.0","id":null,"error":{"code":9223372036854775807,"message":""}}`)
	for _, x := range others {
		id := parse(x)
		refuses(t, rpc.Message{Kind: rpc.Request, ID: id, Method: "m"}, api.ErrForm)
		refuses(t, rpc.Message{Kind: rpc.Result, ID: id, Result: null}, api.ErrForm)
		refuses(t, rpc.Message{Kind: rpc.Fault, ID: id}, api.ErrForm)
		prints(t, rpc.Message{Kind: rpc.Result, ID: num("1"), Result: id}, `{"jsonrpc":"2.0","id":1,"result":`+printed(id)+`}`)
	}
}

// aMessage is one of each Kind.
func aMessage(kind uint8) rpc.Message {
	return map[uint8]rpc.Message{
		rpc.Request: {Kind: rpc.Request, ID: num("1"), Method: "m", Params: arr()},
		rpc.Note:    {Kind: rpc.Note, Method: "m", Params: arr()},
		rpc.Result:  {Kind: rpc.Result, ID: num("1"), Result: arr()},
		rpc.Fault:   {Kind: rpc.Fault, ID: num("1"), Code: 1, Text: "x"},
	}[kind]
}

// P7.1: a Message of no Kind, whatever its fields are, also if these have errors of their own.
func TestWriteOfNoKind(t *testing.T) {
	for kind := range 256 {
		if 1 <= kind && kind <= 4 {
			writes(t, aMessage(uint8(kind)))
			continue
		}
		for _, m := range []rpc.Message{{}, aMessage(rpc.Request), aMessage(rpc.Note), aMessage(rpc.Result), aMessage(rpc.Fault), {Method: "\xff"}, {Text: "\xff"}, {Params: nested(100, null)}, {ID: num("1"), Result: obj("a a", null, null)}} {
			m.Kind = uint8(kind)
			refuses(t, m, api.ErrArg)
		}
	}
}

// P7.1: a field that the Kind does not have.
func TestWriteOfMore(t *testing.T) {
	values := []api.Json{null, yes, no, num("0"), num("1"), str(""), str("a"), arr(), obj(""), {Kind: 9}}
	for _, j := range values {
		for kind, set := range map[uint8]func(m *rpc.Message){
			rpc.Request: func(m *rpc.Message) { m.Result = j },
			rpc.Note:    func(m *rpc.Message) { m.Result = j },
			rpc.Result:  func(m *rpc.Message) { m.Params = j },
			rpc.Fault:   func(m *rpc.Message) { m.Params = j },
		} {
			m := aMessage(kind)
			set(&m)
			refuses(t, m, api.ErrForm)
		}
		refuses(t, rpc.Message{Kind: rpc.Note, ID: j, Method: "m"}, api.ErrForm)
		refuses(t, rpc.Message{Kind: rpc.Fault, ID: num("1"), Code: 1, Text: "x", Result: j}, api.ErrForm)
	}
	for _, kind := range []uint8{rpc.Request, rpc.Note, rpc.Result} {
		for _, code := range []int{1, -1, rpc.Broken, math.MinInt, math.MaxInt, 1 << 32, 1 << 8} {
			m := aMessage(kind)
			m.Code = code
			refuses(t, m, api.ErrForm)
		}
		for _, text := range []string{"x", " ", "\x00", "\xff"} {
			m := aMessage(kind)
			m.Text = text
			refuses(t, m, api.ErrForm)
		}
	}
	for _, kind := range []uint8{rpc.Result, rpc.Fault} {
		for _, method := range []string{"m", " ", "\x00", "\xff"} {
			m := aMessage(kind)
			m.Method = method
			refuses(t, m, api.ErrForm)
		}
	}
}

// P7.1: a value of the Kind 0 is none, whatever stands in its other fields.
func TestWriteOfNone(t *testing.T) {
	for _, j := range []api.Json{{Text: "x"}, {Text: "\xff", Names: []string{"a"}}, {List: []api.Json{null}}, {List: []api.Json{nested(100, null)}}} {
		for want, m := range map[string]rpc.Message{
			`{"jsonrpc":"2.0","id":1,"method":"m"}`:                     {Kind: rpc.Request, ID: num("1"), Method: "m", Params: j, Result: j},
			`{"jsonrpc":"2.0","method":"m"}`:                            {Kind: rpc.Note, ID: j, Method: "m", Params: j, Result: j},
			`{"jsonrpc":"2.0","id":1,"result":null}`:                    {Kind: rpc.Result, ID: num("1"), Params: j, Result: null},
			`{"jsonrpc":"2.0","id":1,"error":{"code":1,"message":"x"}}`: {Kind: rpc.Fault, ID: num("1"), Params: j, Result: j, Code: 1, Text: "x"},
		} {
			written, e := rpc.Write(m)
			if e != api.OK {
				t.Errorf("Write of %s: %v", describe(m), e)
			} else if s := printed(written); s != want {
				t.Errorf("Write of %s: %s, not %s", describe(m), s, want)
			}
		}
		refuses(t, rpc.Message{Kind: rpc.Request, ID: j, Method: "m"}, api.ErrForm)
		refuses(t, rpc.Message{Kind: rpc.Result, ID: num("1"), Result: j}, api.ErrForm)
		refuses(t, rpc.Message{Kind: rpc.Fault, ID: j}, api.ErrForm)
	}
}

// P7.1: a field that is missing, or not as the Kind requires.
func TestWriteOfLess(t *testing.T) {
	for _, id := range []api.Json{none, yes, no, arr(), arr(num("1")), obj(""), obj("id", num("1")), num("15e-1"), num("1e-1"), num(""), num("x"), num("1x"), {Kind: 9, Text: "1"}, {Kind: 255}, {Text: "1"}} {
		for _, kind := range []uint8{rpc.Request, rpc.Result, rpc.Fault} {
			m := aMessage(kind)
			m.ID = id
			refuses(t, m, api.ErrForm)
		}
	}
	for _, params := range []api.Json{null, yes, no, num("1"), str(""), str("[]"), {Kind: 8}, {Kind: 255}} {
		for _, kind := range []uint8{rpc.Request, rpc.Note} {
			m := aMessage(kind)
			m.Params = params
			refuses(t, m, api.ErrForm)
		}
	}
	refuses(t, rpc.Message{Kind: rpc.Request, ID: null, Method: "m"}, api.ErrForm)
	refuses(t, rpc.Message{Kind: rpc.Result, ID: null, Result: null}, api.ErrForm)
	refuses(t, rpc.Message{Kind: rpc.Result, ID: num("1")}, api.ErrForm)
	refuses(t, rpc.Message{Kind: rpc.Fault, Code: 1, Text: "x"}, api.ErrForm)
	// Nothing but its Kind: just a Note may be so.
	for _, kind := range []uint8{rpc.Request, rpc.Result, rpc.Fault} {
		refuses(t, rpc.Message{Kind: kind}, api.ErrForm)
	}
	writes(t, rpc.Message{Kind: rpc.Note})
}

// P7.1: Method and Text are valid texts.
func TestWriteOfTexts(t *testing.T) {
	for _, s := range []string{"\x80", "\xff", "a\xc3", "\xc3a", "\xe2\x82", "\xed\xa0\x80", "\xf0\x9d\x84", "\xc0\x80", "\xf4\x90\x80\x80", rep("x", 1000) + "\xfe"} {
		for _, kind := range []uint8{rpc.Request, rpc.Note} {
			m := aMessage(kind)
			m.Method = s
			refuses(t, m, api.ErrForm)
			// That comes before what json.Check would say of another field.
			for _, l := range flawed {
				m.Params = arr(l...)
				refuses(t, m, api.ErrForm)
			}
		}
		m := aMessage(rpc.Fault)
		m.Text = s
		refuses(t, m, api.ErrForm)
		m.ID = api.Json{Kind: api.String, List: []api.Json{nested(100, null)}}
		refuses(t, m, api.ErrForm)
	}
	for _, s := range []string{"\x00", "\x1f\x7f", "\u00e9", "\u20ac\ufffd", "\U0001d11e", "\U0010ffff", rep("x", 100000)} {
		for _, kind := range []uint8{rpc.Request, rpc.Note} {
			m := aMessage(kind)
			m.Method = s
			writes(t, m)
		}
		m := aMessage(rpc.Fault)
		m.Text = s
		writes(t, m)
	}
	// There is no limit to them as long as they are not printed.
	m := aMessage(rpc.Note)
	m.Method = rep("x", api.MaxJSON+1)
	if j, e := rpc.Write(m); e != api.OK || len(j.List) != 3 || j.List[1].Text != m.Method {
		t.Errorf("Write of a long method: %v", e)
	}
}

// P7.1: the error of json.Check for the envelope, for each of its errors and each field that holds a value; what is wrong with the fields themselves comes before it.
func TestWriteOfInvalidValues(t *testing.T) {
	for want, l := range flawed {
		for _, j := range l {
			for _, kind := range []uint8{rpc.Request, rpc.Note} {
				m := aMessage(kind)
				m.Params = arr(null, j)
				refuses(t, m, want)
				m.Params = obj("a", j)
				refuses(t, m, want)
				m.Text = "x"
				refuses(t, m, api.ErrForm)
				m.Text, m.Code = "", 1
				refuses(t, m, api.ErrForm)
				m.Code, m.Result = 0, null
				refuses(t, m, api.ErrForm)
				m.Kind += 100
				refuses(t, m, api.ErrArg)
			}
			m := rpc.Message{Kind: rpc.Result, ID: str("a"), Result: j}
			refuses(t, m, want)
			m.Result = arr(j)
			refuses(t, m, want)
			m.ID = null
			refuses(t, m, api.ErrForm)
			// An id has the Text of one, whatever is in its lists.
			for _, id := range []api.Json{{Kind: api.String, Text: "a"}, {Kind: api.Number, Text: "1"}} {
				id.List = []api.Json{null, j}
				shape := want
				if want == api.ErrTwice {
					shape = api.ErrForm // the lists are one more thing that is wrong
				}
				refuses(t, rpc.Message{Kind: rpc.Request, ID: id, Method: "m"}, shape)
				refuses(t, rpc.Message{Kind: rpc.Result, ID: id, Result: null}, shape)
				refuses(t, rpc.Message{Kind: rpc.Fault, ID: id, Text: "x"}, shape)
				refuses(t, rpc.Message{Kind: rpc.Fault, ID: id, Text: "\xff"}, api.ErrForm)
				refuses(t, rpc.Message{Kind: rpc.Note, ID: id, Method: "m"}, api.ErrForm)
				id.Names = []string{"a", "a"}
				refuses(t, rpc.Message{Kind: rpc.Request, ID: id, Method: "m"}, shape)
			}
		}
	}
	for _, id := range []api.Json{num("10"), num("1.0"), num("-0"), num("1e0"), str("\xff"), {Kind: api.Number, Text: "1", Names: []string{"a"}}, {Kind: api.String, Names: []string{"a"}}} {
		refuses(t, rpc.Message{Kind: rpc.Request, ID: id, Method: "m"}, api.ErrForm)
		refuses(t, rpc.Message{Kind: rpc.Result, ID: id, Result: null}, api.ErrForm)
		refuses(t, rpc.Message{Kind: rpc.Fault, ID: id}, api.ErrForm)
	}
	refuses(t, rpc.Message{Kind: rpc.Fault, ID: api.Json{Kind: api.Null, Text: "x"}}, api.ErrForm)
}

// P7.1: of several errors of json.Check in different fields its first one.
func TestWriteOrderOfErrors(t *testing.T) {
	order := []api.Errno{api.ErrDeep, api.ErrTooLarge, api.ErrForm, api.ErrTwice}
	for i, first := range order {
		for _, second := range order[i:] {
			for _, l := range [][]api.Json{{flawed[first][0], flawed[second][0]}, {flawed[second][0], flawed[first][0]}} {
				refuses(t, rpc.Message{Kind: rpc.Note, Method: "m", Params: arr(l...)}, first)
				refuses(t, rpc.Message{Kind: rpc.Result, ID: num("1"), Result: arr(l...)}, first)
				if i < 2 {
					refuses(t, rpc.Message{Kind: rpc.Result, ID: api.Json{Kind: api.String, List: l[:1]}, Result: arr(l[1])}, first)
				}
			}
		}
	}
}

// P7.1: what is valid by itself, but too deep or too large within its envelope.
func TestWriteAtLimits(t *testing.T) {
	// The values of an envelope besides: itself, jsonrpc, id, method.
	for _, x := range []struct {
		m    rpc.Message
		most int
	}{
		{rpc.Message{Kind: rpc.Request, ID: num("1"), Method: "m"}, api.MaxItems - 4},
		{rpc.Message{Kind: rpc.Note, Method: "m"}, api.MaxItems - 3},
		{rpc.Message{Kind: rpc.Result, ID: num("1")}, api.MaxItems - 3},
	} {
		try := func(j api.Json, want api.Errno) {
			t.Helper()
			if e := json.Check(j); e != api.OK {
				t.Fatalf("Check: %v", e)
			}
			m := x.m
			if m.Kind == rpc.Result {
				m.Result = j
			} else {
				m.Params = j
			}
			if want != api.OK {
				refuses(t, m, want)
				return
			}
			writes(t, m)
		}
		try(nested(api.MaxNest-2, null), api.OK)
		try(nested(api.MaxNest-1, null), api.ErrDeep)
		try(obj("a b", null, nested(api.MaxNest-3, null)), api.OK)
		try(obj("a b", null, nested(api.MaxNest-2, null)), api.ErrDeep)
		try(many(x.most-1, num("1")), api.OK)
		try(many(x.most, num("1")), api.ErrTooLarge)
		try(many(api.MaxItems-1, null), api.ErrTooLarge)
		try(arr(many(x.most-2, num("1"))), api.OK)
		try(arr(many(x.most-1, num("1"))), api.ErrTooLarge)
	}
}

// P7.1: each field with values that a Kind may have and others, in all combinations. A field's label is what the Kinds ask for.
func TestAllMessages(t *testing.T) {
	allowed := map[uint8][]string{
		rpc.Request: {"id", "empty text", "absent list", "absent", "zero", "empty"},
		rpc.Note:    {"absent", "empty text", "absent list", "absent", "zero", "empty"},
		rpc.Result:  {"id", "empty", "absent", "list value", "zero", "empty"},
		rpc.Fault:   {"id null", "empty", "absent", "absent", "zero other", "empty text"},
	}
	ids := map[string][]api.Json{"absent": {none}, "null": {null}, "id": {num("1"), num("-9223372036854775808"), str(""), str("\u20ac")}, "wrong": {num("15e-1"), num("9223372036854775808"), num("10"), yes, arr(), obj(""), str("\xff"), {Kind: 9}}}
	texts := map[string][]string{"empty": {""}, "text": {"m", "\U0001d11e"}, "wrong": {"\xff", "m\xc3"}}
	values := map[string][]api.Json{"absent": {none}, "list": {arr(), obj("a", null)}, "value": {null, num("1"), str("a")}, "wrong": {{Kind: 9}, num("10"), arr(none)}}
	codes := map[string][]int{"zero": {0}, "other": {1, math.MinInt}}
	asked := func(kind uint8, field int, label string) bool {
		return slices.Contains(strings.Fields(allowed[kind][field]), label)
	}
	written := map[uint8]int{}
	try := func(m rpc.Message, fits bool) {
		if fits {
			written[m.Kind]++
			writes(t, m)
			return
		}
		refuses(t, m, api.ErrForm)
	}
	for kind := range allowed {
		each(ids, func(l1 string, id api.Json) {
			each(texts, func(l2 string, method string) {
				each(values, func(l3 string, params api.Json) {
					each(values, func(l4 string, result api.Json) {
						each(codes, func(l5 string, code int) {
							each(texts, func(l6 string, text string) {
								m := rpc.Message{Kind: kind, ID: id, Method: method, Params: params, Result: result, Code: code, Text: text}
								try(m, asked(kind, 0, l1) && asked(kind, 1, l2) && asked(kind, 2, l3) && asked(kind, 3, l4) && asked(kind, 4, l5) && asked(kind, 5, l6))
							})
						})
					})
				})
			})
		})
	}
	if want := map[uint8]int{rpc.Request: 4 * 3 * 3, rpc.Note: 3 * 3, rpc.Result: 4 * 5, rpc.Fault: 5 * 3 * 3}; !maps.Equal(written, want) {
		t.Errorf("written: %v, not %v", written, want)
	}
}

// each visits all that stands under the labels.
func each[T any](l map[string][]T, visit func(label string, value T)) {
	for label, values := range l {
		for _, value := range values {
			visit(label, value)
		}
	}
}
