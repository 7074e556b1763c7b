package lsp

import "rostrum/api"

// method is the Kind of a method's messages, and the decoder of its params.
type method struct {
	kind   uint8
	decode decoder
}

// decoder puts what params mean into a message; false if they are not as required.
type decoder func(params api.Json, m *Message) bool

// none is the Kind of params that are not there.
const none = 0

func methods() map[string]method {
	return map[string]method{
		"initialize":              {Initialize, anyOf(none, api.Object)},
		"shutdown":                {Shutdown, anyOf(none, api.Null, api.Object)},
		"textDocument/formatting": {Formatting, all(document, width)},
		"textDocument/rename":     {Rename, all(document, place, newName)},
		"textDocument/definition": {Definition, all(document, place)},
		"textDocument/hover":      {Hover, all(document, place)},
		"textDocument/diagnostic": {Diagnostic, document},
		"initialized":             {Initialized, anyOf(none, api.Null, api.Object)},
		"exit":                    {Exit, anyOf(none, api.Null, api.Object)},
		"$/cancelRequest":         {Cancel, requestID},
		"textDocument/didOpen":    {DidOpen, all(document, atVersion, content)},
		"textDocument/didChange":  {DidChange, all(document, atVersion, changes)},
		"textDocument/didClose":   {DidClose, document},
	}
}

// anyOf requires params of one of some Kinds, and takes nothing from them.
func anyOf(kinds ...uint8) decoder {
	return func(params api.Json, _ *Message) bool {
		for _, kind := range kinds {
			if params.Kind == kind {
				return true
			}
		}
		return false
	}
}

// all requires what each of some decoders requires.
func all(parts ...decoder) decoder {
	return func(params api.Json, m *Message) bool {
		for _, part := range parts {
			if !part(params, m) {
				return false
			}
		}
		return true
	}
}
