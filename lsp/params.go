package lsp

import (
	"rostrum/api"
	"rostrum/json"
)

// The columns of a layout, where nothing else is asked for, and the fewest that may be.
const (
	usualWidth = 80
	leastWidth = 20
)

// document takes the name of a document.
func document(params api.Json, m *Message) (ok bool) {
	m.URI, ok = readText(member(params, documentName), "uri")
	return ok
}

// atVersion takes the version of a document.
func atVersion(params api.Json, m *Message) (ok bool) {
	m.Version, ok = readCount(member(params, documentName), versionName)
	return ok
}

// content takes the text of a document.
func content(params api.Json, m *Message) (ok bool) {
	m.Text, ok = readText(member(params, documentName), textName)
	return ok
}

// place takes a position in a document.
func place(params api.Json, m *Message) (ok bool) {
	m.Pos, ok = readPos(params, "position")
	return ok
}

// newName takes the name that another one is to become.
func newName(params api.Json, m *Message) (ok bool) {
	m.Text, ok = readText(params, "newName")
	return ok
}

// width takes the columns that a layout may have.
func width(params api.Json, m *Message) (ok bool) {
	const name = "width"
	if absent(member(params, name)) {
		m.Width = usualWidth
		return true
	}
	m.Width, ok = readCount(params, name)
	return ok && m.Width >= leastWidth && m.Width <= api.MaxWidth
}

// requestID takes the id of another request.
func requestID(params api.Json, m *Message) (ok bool) {
	const name = "id"
	if !IsID(member(params, name)) {
		return false
	}
	// Get, as the message keeps the value itself: it must be a copy.
	m.ID, ok = json.Get(params, name)
	return ok
}

// changes takes what happened to a document's text.
func changes(params api.Json, m *Message) bool {
	list := member(params, "contentChanges")
	if list.Kind != api.Array {
		return false
	}
	for _, one := range list.List {
		change, ok := readChange(one)
		if !ok {
			return false
		}
		m.Changes = append(m.Changes, change)
	}
	return true
}
