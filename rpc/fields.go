package rpc

import (
	"rostrum/api"
	"rostrum/dec"
	"rostrum/utf"
)

// proper says whether a message, of one of the Kinds, has the fields of its Kind, as required, and no others. What is within values is left to json.Check, which has errors of its own for that.
func proper(m Message) bool {
	callable := utf.Valid(m.Method) && isParams(m.Params)
	uncalled := m.Method == "" && absent(m.Params)
	faultless := m.Code == 0 && m.Text == ""
	switch m.Kind {
	case Request:
		return isID(m.ID) && callable && absent(m.Result) && faultless
	case Note:
		return absent(m.ID) && callable && absent(m.Result) && faultless
	case Result:
		return isID(m.ID) && uncalled && !absent(m.Result) && faultless
	default:
		return isFaultID(m.ID) && uncalled && absent(m.Result) && utf.Valid(m.Text)
	}
}

// absent says whether a field holds no value.
func absent(j api.Json) bool { return j.Kind == 0 }

func isID(j api.Json) bool {
	_, whole := integer(j)
	return whole || j.Kind == api.String
}

// isFaultID says whether a fault may have an id: what could not be read has none that it could name.
func isFaultID(j api.Json) bool { return isID(j) || j.Kind == api.Null }

func isParams(j api.Json) bool {
	return absent(j) || j.Kind == api.Array || j.Kind == api.Object
}

// integer is the value of a Number; false if that is no integer of 64 bits, or it is no Number.
func integer(j api.Json) (int64, bool) {
	if j.Kind != api.Number {
		return 0, false
	}
	n, e := dec.Int(j.Text)
	return n, e == api.OK
}
