package rpc

import (
	"rostrum/api"
	"rostrum/dec"
	"rostrum/json"
)

// The names of an envelope, and of its error.
const (
	versionName = "jsonrpc"
	idName      = "id"
	methodName  = "method"
	paramsName  = "params"
	resultName  = "result"
	errorName   = "error"
	codeName    = "code"
	textName    = "message"
)

// version is the only one that is spoken.
const version = "2.0"

// message is that of a valid value; false if it is the envelope of none.
func message(j api.Json) (Message, bool) {
	m, ok := collect(j)
	return m, ok && json.Same(member(j, versionName), text(version)) && proper(m)
}

// collect takes the fields from a valid value, of the Kind that its names determine; false: they determine none, or a field would not hold what stands there.
func collect(j api.Json) (Message, bool) {
	id, method := member(j, idName), member(j, methodName)
	result, problem := member(j, resultName), member(j, errorName)
	switch {
	case !absent(method):
		m := Message{Kind: Request, ID: id, Method: method.Text, Params: member(j, paramsName)}
		if absent(id) {
			m.Kind = Note
		}
		return m, method.Kind == api.String
	case absent(problem):
		return Message{Kind: Result, ID: id, Result: result}, true
	case absent(result):
		code, whole := integer(member(problem, codeName))
		words := member(problem, textName)
		return Message{Kind: Fault, ID: id, Code: int(code), Text: words.Text}, whole && words.Kind == api.String
	default:
		return Message{}, false
	}
}

// member is the value of a name, in new memory. Without one it is absent, which no value within a valid one is.
func member(j api.Json, name string) api.Json {
	value, _ := json.Get(j, name)
	return value
}

// envelope is that of a proper message. It shares the values of the message, which need not be valid.
func envelope(m Message) api.Json {
	return object(func(put appender) {
		put(versionName, text(version))
		if m.Kind != Note {
			put(idName, m.ID)
		}
		switch m.Kind {
		case Result:
			put(resultName, m.Result)
		case Fault:
			put(errorName, problem(m.Code, m.Text))
		default:
			put(methodName, text(m.Method))
			if !absent(m.Params) {
				put(paramsName, m.Params)
			}
		}
	})
}

// problem is the error within a fault's envelope.
func problem(code int, words string) api.Json {
	return object(func(put appender) {
		put(codeName, api.Json{Kind: api.Number, Text: dec.Of(int64(code))})
		put(textName, text(words))
	})
}

// appender appends a name and its value to an Object.
type appender func(name string, value api.Json)

// object is an Object of what fill appends.
func object(fill func(put appender)) api.Json {
	j := api.Json{Kind: api.Object}
	fill(func(name string, value api.Json) {
		j.Names = append(j.Names, name)
		j.List = append(j.List, value)
	})
	return j
}

func text(s string) api.Json { return api.Json{Kind: api.String, Text: s} }

// copied is a valid value in new memory, as every member is.
func copied(j api.Json) api.Json {
	const name = "copied"
	return member(object(func(put appender) { put(name, j) }), name)
}
