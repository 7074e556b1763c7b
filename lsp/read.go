package lsp

import (
	"slices"
	"strings"

	"rostrum/api"
	"rostrum/dec"
	"rostrum/json"
)

// The names of members that more than one part of the package reads or writes.
const (
	documentName = "textDocument"
	versionName  = "version"
	textName     = "text"
	rangeName    = "range"
	startName    = "start"
	endName      = "end"
	lineName     = "line"
	charName     = "character"
	codeName     = "code"
	messageName  = "message"
)

// member is the value of a name, or the zero Json. It is not copied, as json.Get would do: beside what is read, a value may hold anything, of any size, that is ignored.
func member(j api.Json, name string) api.Json {
	at := slices.Index(j.Names, name)
	if j.Kind != api.Object || at < 0 || at >= len(j.List) {
		return api.Json{}
	}
	return j.List[at]
}

// absent says whether a member is not there.
func absent(j api.Json) bool { return json.Same(api.Json{}, j) }

// readText is the text of a member that is a String; false if there is none.
func readText(j api.Json, name string) (string, bool) {
	v := member(j, name)
	if v.Kind != api.String {
		return "", false
	}
	return strings.Clone(v.Text), true
}

// readCount is a member that is a count; false if there is none.
func readCount(j api.Json, name string) (int, bool) {
	n, whole := integer(member(j, name))
	if !whole || n < 0 || n > api.MaxCount {
		return 0, false
	}
	return int(n), true
}

// integer is the value of a Number; false if that is no integer of 64 bits, or it is no Number.
func integer(j api.Json) (int64, bool) {
	if j.Kind != api.Number {
		return 0, false
	}
	n, e := dec.Int(j.Text)
	return n, e == api.OK
}

// readPos is a member that is a position; false if there is none.
func readPos(j api.Json, name string) (api.Pos, bool) {
	v := member(j, name)
	line, lined := readCount(v, lineName)
	char, counted := readCount(v, charName)
	return api.Pos{Line: line, Char: char}, lined && counted
}

// readRange is the range that a value is; false if it is none.
func readRange(j api.Json) (api.Range, bool) {
	start, started := readPos(j, startName)
	end, ended := readPos(j, endName)
	return api.Range{Start: start, End: end}, started && ended
}

// readChange is the change that a value is; false if it is none.
func readChange(j api.Json) (Change, bool) {
	words, worded := readText(j, textName)
	where := member(j, rangeName)
	if absent(where) {
		return Change{Whole: true, Text: words}, worded
	}
	at, ranged := readRange(where)
	return Change{Range: at, Text: words}, worded && ranged
}
