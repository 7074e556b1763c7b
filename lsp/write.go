package lsp

import (
	"strings"

	"rostrum/api"
	"rostrum/dec"
)

// incremental is how the protocol numbers the way in which documents are kept in step: by their changes.
const incremental = 2

// entry is a member that is written.
type entry struct {
	name  string
	value api.Json
}

func object(entries ...entry) api.Json {
	j := api.Json{Kind: api.Object}
	for _, one := range entries {
		j.Names = append(j.Names, one.name)
		j.List = append(j.List, one.value)
	}
	return j
}

// array is an Array of what write makes of each part.
func array(l []Part, write func(p Part) api.Json) api.Json {
	j := api.Json{Kind: api.Array}
	for _, p := range l {
		j.List = append(j.List, write(p))
	}
	return j
}

func edit(p Part) api.Json {
	return object(entry{rangeName, rangeOf(p.Range)}, entry{"newText", text(p.Text)})
}

func item(p Part) api.Json {
	return object(entry{rangeName, rangeOf(p.Range)}, entry{codeName, number(p.Code)}, entry{messageName, text(p.Text)})
}

func rangeOf(r api.Range) api.Json {
	return object(entry{startName, position(r.Start)}, entry{endName, position(r.End)})
}

func position(p api.Pos) api.Json {
	return object(entry{lineName, number(p.Line)}, entry{charName, number(p.Char)})
}

func number(n int) api.Json {
	return api.Json{Kind: api.Number, Text: dec.Of(int64(n))}
}

// text is a String; copied, as a part of an argument would keep the whole of it in memory.
func text(s string) api.Json {
	return api.Json{Kind: api.String, Text: strings.Clone(s)}
}

// textOrNull is a String, or Null for the empty text.
func textOrNull(s string) api.Json {
	if s == "" {
		return api.Json{Kind: api.Null}
	}
	return text(s)
}
